/- The numbers of a value's list, as the document takes them. Conditions: the number of each value within reads. -/
import Derived.Test.YtcbkgcnajplagaaDoorJ22
set_option linter.unusedVariables false
set_option linter.unusedSimpArgs false
set_option maxRecDepth 100000
namespace Go.Proofs.YtcbkgcnajplagaaDoor.Po
open Go Go.RowKit
/-- The numbers of so many values that lie from A on. -/
def NumsAt (w : World) (B : Nat) (A : Option Addr) (n : Nat) (l : List Int) : Prop := n = l.length ∧ (0 < n → ∃ ad, A = some ad ∧ ad.block < B ∧ ∀ k, k < n → w.cell? ⟨(ad.add (k * 4)).block, (ad.add (k * 4)).off + 1, none⟩ = some (.int .i64 (l.getD k 0)))
theorem NumsAt.below {w w' : World} {B n : Nat} {A : Option Addr} {l : List Int} (h : NumsAt w B A n l) (hb : Below B w w') : NumsAt w' B A n l :=
  ⟨h.1, fun h0 => by
    obtain ⟨ad, e, hB, hc⟩ := h.2 h0
    exact ⟨ad, e, hB, fun k hk => (hb.cell (by rw [block_of_add]; exact hB)).trans (hc k hk)⟩⟩
structure NS (W wr : World) (va : Value) (k : Nat) (l : List Int) : Prop where
  own : wr.ownsRow W.heap.size 3 1 va k (ints (l.take k))
  le : W.heap.size ≤ wr.heap.size
  bel : Below W.heap.size W wr
theorem NS.step {W wr wd w3 : World} {va v' : Value} {k : Nat} {l : List Int} (h : NS W wr va k l) (hd : Below wr.heap.size wr wd) (ho : w3.ownsRow W.heap.size 3 1 v' (k + 1) (ints (l.take (k + 1)))) (hg : wd.grownBy w3 va.ownBlock) : NS W w3 v' (k + 1) l := by
  have hownd := keep_none h.own hd
  have hb : Below W.heap.size wd w3 := below_own hownd hg (Nat.le_trans h.le hd.size)
  have hb2 : Below W.heap.size wr w3 := (hd.mono h.le).trans hb
  exact ⟨ho, Nat.le_trans h.le hb2.size, h.bel.trans hb2⟩
/-- Numbers in new memory. -/
def NumsPost (w : World) (n : Nat) (l : List Int) (e : Ending) (w' : World) : Prop := ∃ A1 c1 b, e = .returned (.slice A1 n c1) ∧ w.heap.size ≤ b ∧ w'.ownsRow b 3 1 (.slice A1 n c1) n (ints l) ∧ n ≤ c1 ∧ c1 ≤ maxLen ∧ Below w.heap.size w w'
set_option maxHeartbeats 8000000 in
theorem rnumbers_any {w : World} {B : Nat} {A : Option Addr} {n c : Nat} {l : List Int} (a b : Int) (s : ByteArray) (hR : NumsAt w B A n l) (hB : B ≤ w.heap.size) (hn : n ≤ 1000000) :
    Calls Tryd.prog 34 #[.agg #[.int .i64 a, .int .i64 b, .string s, .slice A n c]] w (NumsPost w n l) := by
  obtain ⟨i0, hi, hz0, hz1, hz2⟩ := info_parts int_row
  have hln := hR.1
  obtain ⟨W, hW⟩ : ∃ W, W = w.alloc (.cells #[.int .i64 a, .int .i64 b, .string s, .slice A n c] 47) := ⟨_, rfl⟩
  have hB0 : Below w.heap.size w W := by rw [hW]; exact (Below.refl _ w).alloc (Nat.le_refl _) _
  have hsW : W.heap.size = w.heap.size + 1 := by rw [hW]; simp
  have r0 : Row W w.heap.size 47 [.int .i64 a, .int .i64 b, .string s, .slice A n c] := by rw [hW]; exact Row.new w 47 [.int .i64 a, .int .i64 b, .string s, .slice A n c]
  have hRW := hR.below (hB0.mono hB)
  have KR := Lib.hid (fun w1 (hb : Below W.heap.size W w1) => show w1.cell? ⟨w.heap.size, 3, none⟩ = some (.slice A n c) ∧ w.heap.size < w1.heap.size ∧ NumsAt w1 B A n l from
    ⟨(r0.keep (hb.block _ r0.lt)).cell (j := 3) rfl, (r0.keep (hb.block _ r0.lt)).lt, hRW.below (hb.mono (Nat.le_trans hB hB0.size))⟩)
  have hv0 : NS W W (.slice none 0 0) 0 l := ⟨World.ownsRow_nil .., Nat.le_refl _, Below.refl _ _⟩
  have HV0 := Lib.hid hv0
  have HW := Lib.hid hW
  have HL := Lib.hid hln
  have HB0 := Lib.hid hB0
  have HSW := Lib.hid (And.intro hsW hB)
  clear hR hB hRW hv0 hW hln hB0 hsW r0
  go_enter Tryd.func34, Tryd.ntmps34
  go_wp2_with fail
  rw [← HW.out]
  go_loopw [3, 4] (fun v3 i wr => ∃ (va : Value) (k : Nat), va = v3 ∧ i = .int .i64 (k : Int) ∧ k ≤ n ∧ NS W wr va k l) (fun v3 i _ => n - (intOf i).toNat)
  case atStart => exact ⟨_, 0, rfl, rfl, Nat.zero_le _, HV0.out⟩
  case round =>
    obtain ⟨va, k, rfl, rfl, hk, hV⟩ := hrel
    obtain ⟨x3, xl, hRr⟩ := KR.out wr hV.bel
    obtain ⟨Aq, cq, rfl, hnq, hcq⟩ := own_shape hV.own
    by_cases hlt : k < n
    · have hltz : (k : Int) < (n : Int) := by omega
      obtain ⟨ad, rfl, hab, hcc⟩ := hRr.2 (by omega)
      have hc := hcc k hlt
      have hadl : (ad.add (k * 4)).block < wr.heap.size := by rw [block_of_add]; have := HSW.out; omega
      have htk := take_snoc l k (by have := HL.out; omega)
      have HTK := Lib.hid (show ints (l.take (k + 1)) = ints (l.take k) ++ [.int .i64 (l.getD k 0)] by rw [htk]; simp [ints])
      have HV := Lib.hid hV
      have hle := hV.le
      clear hV hRr htk hcc
      generalize l.getD k 0 = x at *
      have hkb : k ≤ 1000000 := by omega
      have HE := Lib.hid hle
      clear hle
      go_wp2_with (at_builtin; refine append_int rfl (.tmp 12) (.tmp 19) rfl W.heap.size (.slice Aq k cq) k (ints (l.take k)) x rfl HV.out.own wr.heap.size rfl rfl hkb HE.out ?_; intro v' w3 hown3 hgr3)
      have hownx : w3.ownsRow W.heap.size 3 1 v' (k + 1) (ints (l.take (k + 1))) := by rw [HTK.out]; exact hown3
      have HN := Lib.hid (HV.out.step (Below.refl _ wr) hownx hgr3)
      clear hown3 hgr3 hownx
      go_wp2_with fail
      exact ⟨⟨_, k + 1, rfl, by go_num, hlt, HN.out⟩, by simp [intOf]; omega⟩
    · obtain rfl : k = n := by omega
      have hnl : ¬ (k : Int) < (k : Int) := by omega
      have hown := hV.own
      rw [List.take_of_length_le (by rw [HL.out]; exact Nat.le_refl _)] at hown
      have HO := Lib.hid hown
      have HBW := Lib.hid (HB0.out.trans (hV.bel.mono HB0.out.size))
      clear hown hV hRr
      go_wp2_with fail
      go_ret
      exact ⟨Aq, cq, W.heap.size, rfl, by have := HSW.out; omega, HO.out, hnq, hcq, HBW.out⟩
end Go.Proofs.YtcbkgcnajplagaaDoor.Po
