/- What Put of package frame and of the document's answers return: a text's frame, or that it is too long. Conditions: the table of four bits lies as start-up lays it. -/
import Derived.Test.YtkehojgiappiiaaGreatDoorFrm
set_option linter.unusedVariables false
set_option linter.unusedSimpArgs false
namespace Go.Proofs.YtkehojgiappiiaaGreatDoor
open Go Go.RowKit

theorem below_then' {w w1 w2 : World} (h : Below w.heap.size w w1) (k : Below w1.heap.size w1 w2) : Below w.heap.size w w2 := h.trans (k.mono h.size)
/-- The result of putting. -/
def putV (s : ByteArray) : Value := if s.size ≤ 262144 then .tuple #[.string (encS s), .int .i64 0] else .tuple #[.string ⟨#[]⟩, .int .i64 23]
set_option maxHeartbeats 2000000 in
theorem put_any (s : ByteArray) (hs : s.size ≤ 300000) (w : World) (hT : TabW w) : Calls Tryz.prog 45 #[.string s] w fun e w' => e = .returned (putV s) ∧ Below w.heap.size w w' := by
  unfold putV
  by_cases hl : s.size ≤ 262144
  · rw [if_pos hl]
    have hz : ¬ (262144 : Int) < (s.size : Int) := by omega
    have H1 := Lib.hid (hex_ok s.size (by omega))
    have H2 := Lib.hid (fun w hT => sum_any s w hs hT)
    have H3 := Lib.hid (hex_ok (crcS s).toNat (crcS s).isLt)
    have HE := Lib.hid (encS_eq s)
    have hA : (⟨(hexL s.size).toArray⟩ : ByteArray).size = 6 := rfl
    have hB : (⟨(hexL (crcS s).toNat).toArray⟩ : ByteArray).size = 6 := rfl
    have HT := Lib.hid hT
    clear hT hl
    generalize (⟨(hexL s.size).toArray⟩ : ByteArray) = A at *
    generalize (⟨(hexL (crcS s).toNat).toArray⟩ : ByteArray) = B at *
    have h1 : (A ++ B).size = 12 := by rw [ByteArray.size_append]; omega
    have h2 : (A ++ B ++ ⟨#[124]⟩ : ByteArray).size = 13 := by rw [ByteArray.size_append, h1]; rfl
    have h3 : (A ++ B ++ ⟨#[124]⟩ ++ s : ByteArray).size = 13 + s.size := by rw [ByteArray.size_append, h2]
    go_enter Tryz.func45, Tryz.ntmps45
    go_wp2_with fail
    refine (H1.out w).mono ?_
    rintro e w1 ⟨rfl, hb1⟩
    go_wp2_with fail
    refine (H2.out w1 (HT.out.below hb1 HT.out.size)).mono ?_
    rintro e w2 ⟨rfl, rfl⟩
    go_wp2_with fail
    refine (H3.out w1).mono ?_
    rintro e w2 ⟨rfl, hb2⟩
    go_wp2_with fail
    go_ret2
    rw [HE.out]
    exact ⟨rfl, below_then' hb1 hb2⟩
  · rw [if_neg hl]
    have hz : (262144 : Int) < (s.size : Int) := by omega
    clear hl hT
    go_enter Tryz.func45, Tryz.ntmps45
    go_wp2_with fail
    go_ret2
    exact ⟨rfl, Below.refl _ _⟩
end Go.Proofs.YtkehojgiappiiaaGreatDoor
