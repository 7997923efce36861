/- What copies of package logs returns: the same texts in a list of its own. Conditions: the list reads as texts. -/
import Derived.Test.YtkehojgiappiiaaGreatDoorLog
set_option linter.unusedVariables false
set_option linter.unusedSimpArgs false
namespace Go.Proofs.YtkehojgiappiiaaGreatDoor
open Go Go.RowKit
/-- A list of texts of the call's own, in blocks from a place on. -/
def OwnL (w : World) (base : Nat) (v : Value) (rs : List (List UInt8)) : Prop := w.ownsRow base 9 1 v rs.length (strL rs)
theorem copies_made (n : Nat) : madeCells #[.string ⟨#[]⟩] n = (strL (List.replicate n [])).toArray := by
  have h := toList_madeCells_one (.string ⟨#[]⟩) n
  unfold strL
  rw [List.map_replicate, ← h, Array.toArray_toList]
theorem strL_set (rs : List (List UInt8)) (k : Nat) (r : List UInt8) : (strL rs).set k (.string ⟨r.toArray⟩) = strL (rs.set k r) := by
  unfold strL
  rw [List.map_set]
theorem strL_get {rs : List (List UInt8)} {j : Nat} (h : j < rs.length) : (strL rs)[j]? = some (.string ⟨(rs.getD j []).toArray⟩) := by
  unfold strL
  rw [List.getElem?_map, List.getD_eq_getElem?_getD, List.getElem?_eq_getElem h]
  rfl
/-- So many copied, the others empty. -/
def half_ (rs : List (List UInt8)) (k : Nat) : List (List UInt8) := rs.take k ++ List.replicate (rs.length - k) []
theorem half_len (rs : List (List UInt8)) (k : Nat) (hk : k ≤ rs.length) : (half_ rs k).length = rs.length := by unfold half_; simp; omega
theorem half_next (rs : List (List UInt8)) (k : Nat) (hk : k < rs.length) : (half_ rs k).set k (rs.getD k []) = half_ rs (k + 1) := by
  unfold half_
  rw [List.set_append_right _ _ (by simp; omega), List.take_succ_eq_append_getElem hk, List.getD_eq_getElem?_getD, List.getElem?_eq_getElem hk, List.append_assoc]
  congr 1
  rw [show k - (rs.take k).length = 0 by simp; omega, show rs.length - k = (rs.length - (k + 1)) + 1 by omega, List.replicate_succ]
  rfl
theorem row_own {w : World} {g n : Nat} {rs : List (List UInt8)} {base : Nat} (h : Row w g 9 (strL rs)) (hn : n = rs.length) (hb : base ≤ g) (hm : n ≤ maxLen) : OwnL w base (.slice (some ⟨g, 0, none⟩) n n) rs := by
  subst hn
  exact ⟨by rw [strL_len, Nat.mul_one], .inr ⟨g, rs.length, _, rfl, hb, h, Nat.le_refl _, hm, by simp [strL_len], by simp [strL_len]; exact List.take_of_length_le (by rw [strL_len]; exact Nat.le_refl _)⟩⟩
set_option maxHeartbeats 4000000 in
set_option maxRecDepth 100000 in
theorem copies_any (rs : List (List UInt8)) (A : Option Addr) (n c : Nat) (w : World) (hR : Reads w w.heap.size 1 A n (strL rs)) (hn : n ≤ 1000000) (hr : ∀ r ∈ rs, r.length ≤ 300000) :
    Calls Tryz.prog 32 #[.slice A n c] w fun e w' => ∃ v, e = .returned v ∧ OwnL w' w.heap.size v rs ∧ Below w.heap.size w w' := by
  have hmk := run_make_row' (P := Tryz.prog) 23 9 (.string ⟨#[]⟩) 16 Tryz.underlying23 str_row rfl .i64 .i64 n (by omega) (by omega)
  rw [copies_made] at hmk
  have hlen := reads_len hR
  have HL := Lib.hid hlen
  have H := Lib.hid (And.intro hR hr)
  have hnw : Row (w.alloc (.cells (strL (half_ rs 0)).toArray 9)) w.heap.size 9 (strL (half_ rs 0)) := Row.new w 9 _
  have hb0 : Below w.heap.size w (w.alloc (.cells (strL (half_ rs 0)).toArray 9)) := (Below.refl _ w).alloc (Nat.le_refl _) _
  have e0 : List.replicate n [] = half_ rs 0 := by unfold half_; rw [hlen]; simp
  rw [e0] at hmk
  have H0 := Lib.hid (And.intro hnw hb0)
  clear hR hr hlen hnw hb0 e0
  go_enter Tryz.func32, Tryz.ntmps32
  go_wp2_with fail
  generalize w.alloc (.cells (strL (half_ rs 0)).toArray 9) = w0 at *
  go_loopw [11] (fun i wr => ∃ (k : Nat), i = .int .i64 (k : Int) ∧ k ≤ n ∧ Row wr w.heap.size 9 (strL (half_ rs k)) ∧ Below w.heap.size w wr) (fun i _ => n - (intOf i).toNat)
  case atStart => exact ⟨0, rfl, Nat.zero_le _, H0.out.1, H0.out.2⟩
  case round =>
    obtain ⟨k, rfl, hk, hW, hb⟩ := hrel
    by_cases hlt : k < n
    · have hltz : (k : Int) < (n : Int) := by omega
      have hkl : k < rs.length := by have := HL.out; omega
      obtain ⟨ad, rfl, hbk, hcell⟩ := reads_str (H.out.1.below hb) hlt
      have hbk2 : (ad.add k).block < wr.heap.size := by rw [block_of_add]; have := hb.size; omega
      have hmem : rs.getD k [] ∈ rs := by rw [List.getD_eq_getElem?_getD, List.getElem?_eq_getElem hkl]; exact List.getElem_mem _
      have hcl := clone_any ⟨(rs.getD k []).toArray⟩ (by have := H.out.2 _ hmem; show (rs.getD k []).length ≤ 1000000; omega) wr
      have hcw := strL_get (rs := half_ rs k) (j := k) (by rw [half_len _ _ (by omega)]; exact hkl)
      have hnx : ∀ W, Row W w.heap.size 9 (strL (half_ rs k)) → Row (W.setCell ⟨w.heap.size, k, none⟩ (.string ⟨(rs.getD k []).toArray⟩)) w.heap.size 9 (strL (half_ rs (k + 1))) := fun W h => by
        have := h.set k (.string ⟨(rs.getD k []).toArray⟩)
        rw [strL_set, half_next rs k hkl] at this
        exact this
      have HN := Lib.hid hnx
      have HC := Lib.hid hcl
      clear hmem hcl hnx hkl
      generalize (⟨(rs.getD k []).toArray⟩ : ByteArray) = s at *
      generalize ((half_ rs k).getD k []).toArray = z at *
      have HW := Lib.hid (And.intro hW (And.intro hb hcw))
      clear hW hb hcw
      go_wp2_with (go_at_call 25; refine HC.out.mono ?_; rintro e w1 ⟨rfl, hb1⟩; have hW1 := HW.out.1.keep (hb1.block _ HW.out.1.lt); have hc1 := hW1.cell HW.out.2.2; have hz1 := hW1.frozen k; have hl1 := hW1.lt)
      have hb2 := below_setCell (HW.out.2.1.trans (hb1.mono (B' := w.heap.size) HW.out.2.1.size)) (p := ⟨w.heap.size, k, none⟩) (Nat.le_refl _) (.string s)
      have hW2 := HN.out _ hW1
      go_roundw
      case rel => exact ⟨k + 1, by go_num, by omega, hW2, hb2⟩
      case measure => simp [intOf]; omega
    · obtain rfl : k = n := by omega
      have hnl : ¬ (k : Int) < (k : Int) := by omega
      have hfull : half_ rs k = rs := by unfold half_; have := HL.out; rw [List.take_of_length_le (by omega), show rs.length - k = 0 by omega]; simp
      rw [hfull] at hW
      have HW := Lib.hid (And.intro hW hb)
      clear hW hb hfull
      go_wp2_with fail
      go_ret
      exact ⟨_, rfl, row_own HW.out.1 HL.out (Nat.le_refl _) (by unfold maxLen; omega), HW.out.2⟩
end Go.Proofs.YtkehojgiappiiaaGreatDoor
