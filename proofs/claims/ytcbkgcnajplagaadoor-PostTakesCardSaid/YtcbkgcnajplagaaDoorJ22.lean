/- Numbers as a value, as the document makes it. Conditions: they read as a list of up to 1000. -/
import Derived.Test.YtcbkgcnajplagaaDoorJ02
import Derived.Deep.RegionLaw
set_option linter.unusedVariables false
set_option linter.unusedSimpArgs false
set_option maxRecDepth 100000
namespace Go.Proofs.YtcbkgcnajplagaaDoor.Po
open Go Go.RowKit
theorem val_row : (Tryd.prog.info? 47).map (fun i => (i.zero, i.size, i.bytes)) = some (some (.agg #[.int .i64 0, .int .i64 0, .string ⟨#[]⟩, .slice none 0 0]), 4, 56) := by kernel_rfl
def vcell (n : Int) : List Value := [.int .i64 1, .int .i64 n, .string ⟨#[]⟩, .slice none 0 0]
def ivals (l : List Int) : List Value := l.flatMap vcell
theorem ivals_len (l : List Int) : (ivals l).length = l.length * 4 := by
  induction l with
  | nil => rfl
  | cons x r ih =>
    have : ivals (x :: r) = vcell x ++ ivals r := rfl
    rw [this, List.length_append, ih, List.length_cons]
    simp [vcell]
    omega
theorem ivals_snoc (l : List Int) (x : Int) : ivals (l ++ [x]) = ivals l ++ vcell x := by simp [ivals]
/-- The document's list of nodes, as it grows in a variable at p. -/
structure VS (w1 wr : World) (p : Nat) (va : Value) (k : Nat) (l : List Int) : Prop where
  row : Row wr p 47 [.int .i64 3, .int .i64 0, .string ⟨#[]⟩, va]
  own : wr.ownsRow (p + 1) 47 4 va k (ivals (l.take k))
  le : p + 1 ≤ wr.heap.size
  bel : Below w1.heap.size w1 wr
  pw : w1.heap.size ≤ p
structure VN (w1 w3 : World) (p : Nat) (va v' : Value) (k : Nat) (l : List Int) : Prop where
  z1 : w3.frozen? ⟨p, 3, none⟩ = false
  y1 : w3.cell? ⟨p, 3, none⟩ = some va
  l3 : p < w3.heap.size
  next : VS w1 (w3.setCell ⟨p, 3, none⟩ v') p v' (k + 1) l
theorem VS.step {w1 wr wd w3 : World} {p : Nat} {va v' : Value} {k : Nat} {l : List Int} (h : VS w1 wr p va k l) (hd : Below wr.heap.size wr wd) (ho : w3.ownsRow (p + 1) 47 4 v' (k + 1) (ivals (l.take (k + 1)))) (hg : wd.grownBy w3 va.ownBlock) : VN w1 w3 p va v' k l := by
  have hle := h.le
  have hpw := h.pw
  have hownd := keep_none h.own hd
  have hb : Below (p + 1) wd w3 := below_own hownd hg (Nat.le_trans hle hd.size)
  have hb2 : Below (p + 1) wr w3 := (hd.mono hle).trans hb
  have r3 := h.row.keep (hb2.block p (by omega))
  have hs := hb2.size
  refine ⟨r3.frozen 3, r3.cell (j := 3) rfl, r3.lt, r3.set 3 v', ownsRow_setCell_below ho (a := ⟨p, 3, none⟩) (by show p < p + 1; omega) v', by simp; omega, below_setCell (h.bel.trans (hb2.mono (by omega))) (p := ⟨p, 3, none⟩) hpw v', hpw⟩
theorem news_val (w : World) (n : Int) : ∀ j u, (vcell n)[j]? = some u → (w.alloc (.cells #[.int .i64 1, .int .i64 n, .string ⟨#[]⟩, .slice none 0 0] 47)).cell? ((⟨w.heap.size, 0, none⟩ : Addr).add j) = some u :=
  news_cells w #[.int .i64 1, .int .i64 n, .string ⟨#[]⟩, .slice none 0 0] 47
/-- A list of numbers as a value, in new memory. -/
def ListPost (w : World) (n : Nat) (l : List Int) (e : Ending) (w' : World) : Prop := ∃ A1 c1 b, e = .returned (.agg #[.int .i64 3, .int .i64 0, .string ⟨#[]⟩, .slice A1 n c1]) ∧ w.heap.size ≤ b ∧ w'.ownsRow b 47 4 (.slice A1 n c1) n (ivals l) ∧ n ≤ c1 ∧ c1 ≤ maxLen ∧ Below w.heap.size w w'
set_option maxHeartbeats 8000000 in
theorem rlist_any {w : World} {B : Nat} {A : Option Addr} {n c : Nat} {l : List Int} (hR : Reads w B 1 A n (ints l)) (hB : B ≤ w.heap.size) (hn : n ≤ 1000) :
    Calls Tryd.prog 21 #[.slice A n c] w (ListPost w n l) := by
  obtain ⟨i0, hi, hz0, hz1, hz2⟩ := info_parts val_row
  have hln := hR.len
  obtain ⟨W, hW⟩ : ∃ W, W = w.alloc (.cells #[.int .i64 0, .int .i64 0, .string ⟨#[]⟩, .slice none 0 0] 47) := ⟨_, rfl⟩
  have hsW : W.heap.size = w.heap.size + 1 := by rw [hW]; simp
  have hB0 : Below w.heap.size w W := by rw [hW]; exact (Below.refl _ w).alloc (Nat.le_refl _) _
  have hRW := (hR.more hB).below hB0
  have KR := Lib.hid (fun w1 (hb : Below W.heap.size W w1) => show Reads w1 w.heap.size 1 A n (ints l) from hRW.below (hb.mono hB0.size))
  obtain ⟨U, hU⟩ : ∃ U, U = W.alloc (.cells #[.int .i64 3, .int .i64 0, .string ⟨#[]⟩, .slice none 0 0] 47) := ⟨_, rfl⟩
  have hv0 : VS W U (w.heap.size + 1) (.slice none 0 0) 0 l := by
    rw [← hsW, hU]
    exact ⟨Row.new W 47 [.int .i64 3, .int .i64 0, .string ⟨#[]⟩, .slice none 0 0], World.ownsRow_nil .., by simp, (Below.refl _ W).alloc (Nat.le_refl _) _, Nat.le_refl _⟩
  have hr2 : Row W w.heap.size 47 [.int .i64 0, .int .i64 0, .string ⟨#[]⟩, .slice none 0 0] := by rw [hW]; exact Row.new w 47 [.int .i64 0, .int .i64 0, .string ⟨#[]⟩, .slice none 0 0]
  have HV0 := Lib.hid hv0
  have HW := Lib.hid hW
  have HU := Lib.hid hU
  have HL := Lib.hid hln
  have HB0 := Lib.hid hB0
  have HR2 := Lib.hid hr2
  have HSW := Lib.hid hsW
  clear hR hB hRW hv0 hU hW hln hB0 hr2 hsW
  go_enter Tryd.func21, Tryd.ntmps21
  go_wp2_with fail
  rw [← HW.out]
  go_wp2_with fail
  rw [← HU.out]
  go_loopw [4] (fun i wr => ∃ (va : Value) (k : Nat), i = .int .i64 (k : Int) ∧ k ≤ n ∧ VS W wr (w.heap.size + 1) va k l) (fun i _ => n - (intOf i).toNat)
  case atStart => exact ⟨_, 0, rfl, Nat.zero_le _, HV0.out⟩
  case round =>
    obtain ⟨va, k, rfl, hk, hV⟩ := hrel
    have hRr := KR.out wr hV.bel
    obtain ⟨Aq, cq, rfl, _, _⟩ := own_shape hV.own
    have y3 := hV.row.cell (j := 3) rfl
    have yl := hV.row.lt
    by_cases hlt : k < n
    · have hltz : (k : Int) < (n : Int) := by omega
      obtain ⟨ad, rfl, hab, hc⟩ := hRr.int_at hlt
      have hadl : (ad.add k).block < wr.heap.size := by rw [block_of_add]; omega
      have htk := take_snoc l k (by have := HL.out; omega)
      have HTK := Lib.hid (show ivals (l.take (k + 1)) = ivals (l.take k) ++ vcell (l.getD k 0) by rw [htk, ivals_snoc])
      have HV := Lib.hid hV
      have hle := hV.le
      clear hV hRr htk
      generalize l.getD k 0 = x at *
      go_wp2_with fail
      go_region_law (refine step_append_lies _ rfl (.tmp 13) (.tmp 19) 45 rfl (w.heap.size + 1 + 1) 47 i0 _ 4 56 Tryd.underlying45 hi hz0 hz1 hz2 rfl (by decide) (.slice Aq k cq) k (ivals (l.take k)) rfl (by first | exact HV.out.own.alloc _ | exact (own_drewN HV.out.own _).alloc _) _ 1 1 _ rfl rfl (news_val _ x) (by intro u hu; simp [vcell] at hu; rcases hu with rfl | rfl | rfl | rfl <;> rfl) (by decide) (by unfold maxLen; omega) (by omega) (by simp; omega) _ rfl ?_; intro g cap w3 hown3 hgr3 hlies hlt3; rw [← HTK.out] at hown3; have HN := Lib.hid (HV.out.step ((below_drewN (Below.refl _ wr) _).alloc (Nat.le_refl _) _) hown3 hgr3); have z1 := HN.out.z1; have y1 := HN.out.y1; have l3 := HN.out.l3; clear hown3 hgr3 hlies hlt3)
      all_goals (
        go_wp2_with fail
        exact ⟨⟨_, k + 1, by go_num, hlt, HN.out.next⟩, by simp [intOf]; omega⟩)
    · obtain rfl : k = n := by omega
      have hnl : ¬ (k : Int) < (k : Int) := by omega
      have y0 := hV.row.cell (j := 0) rfl
      have y1 := hV.row.cell (j := 1) rfl
      have y2 := hV.row.cell (j := 2) rfl
      obtain ⟨hnq, hcq⟩ : k ≤ cq ∧ cq ≤ maxLen := by
        obtain ⟨A', c', hq, h1, h2⟩ := own_shape hV.own
        injection hq with _ _ hq
        subst hq
        exact ⟨h1, h2⟩
      have hr2 := HR2.out.keep (hV.bel.block _ (by have := HSW.out; omega))
      have z0 := hr2.frozen 0
      have z1 := hr2.frozen 1
      have z2 := hr2.frozen 2
      have z3 := hr2.frozen 3
      have g0 := hr2.cell (j := 0) rfl
      have g1 := hr2.cell (j := 1) rfl
      have g2 := hr2.cell (j := 2) rfl
      have g3 := hr2.cell (j := 3) rfl
      have gl := hr2.lt
      have hown := hV.own
      rw [List.take_of_length_le (by rw [HL.out]; exact Nat.le_refl _)] at hown
      have HO := Lib.hid hown
      have HBW := Lib.hid (HB0.out.trans (hV.bel.mono HB0.out.size))
      clear hown hV hRr hr2
      go_wp2_with fail
      refine bodyPost_ret (v := .agg #[.int .i64 3, .int .i64 0, .string ⟨#[]⟩, .slice Aq k cq]) (by simp [results, Tryd.results21, go_sem, g0, g1, g2, g3]) rfl ⟨Aq, cq, w.heap.size + 1 + 1, rfl, by omega, ?_, hnq, hcq, ?_⟩
      · exact (ownsRow_setCell_below (ownsRow_setCell_below (ownsRow_setCell_below (ownsRow_setCell_below HO.out (a := ⟨w.heap.size, 0, none⟩) (by show w.heap.size < w.heap.size + 1 + 1; omega) _) (a := ⟨w.heap.size, 1, none⟩) (by show w.heap.size < w.heap.size + 1 + 1; omega) _) (a := ⟨w.heap.size, 2, none⟩) (by show w.heap.size < w.heap.size + 1 + 1; omega) _) (a := ⟨w.heap.size, 3, none⟩) (by show w.heap.size < w.heap.size + 1 + 1; omega) _)
      · exact (below_setCell (below_setCell (below_setCell (below_setCell HBW.out (p := ⟨w.heap.size, 0, none⟩) (Nat.le_refl _) _) (p := ⟨w.heap.size, 1, none⟩) (Nat.le_refl _) _) (p := ⟨w.heap.size, 2, none⟩) (Nat.le_refl _) _) (p := ⟨w.heap.size, 3, none⟩) (Nat.le_refl _) _)
end Go.Proofs.YtcbkgcnajplagaaDoor.Po
