/- What All of the document's answers returns. Conditions: up to 300000 bytes. -/
import Derived.Test.YtcbkgcnajplagaaDoorJ43
import Derived.Test.YtcbkgcnajplagaaDoorJ45
set_option linter.unusedVariables false
set_option linter.unusedSimpArgs false
namespace Go.Proofs.YtcbkgcnajplagaaDoor
open Go Go.RowKit
theorem below_end {w w1 w2 : World} (h : Below w.heap.size w w1) (k : Below w1.heap.size w1 w2) : Below w.heap.size w w2 := below_then' h k
/-- Texts and a number. -/
def RAllPost (r : List (List UInt8) × Nat) (w : World) (e : Ending) (w' : World) : Prop := ∃ A n c, e = .returned (.tuple #[.slice A n c, .int .i64 (r.2 : Int)]) ∧ Reads w' w'.heap.size 1 A n (strL r.1) ∧ Below w.heap.size w w' ∧ n ≤ c ∧ c ≤ maxLen
set_option maxHeartbeats 4000000 in
set_option maxRecDepth 100000 in
theorem rall_any (s : ByteArray) (hs : s.size ≤ 300000) (w : World) : Calls Tryd.prog 32 #[.string s] w (RAllPost (alls s.data.toList) w) := by
  go_enter Tryd.func32, Tryd.ntmps32
  go_wp2_with fail
  go_loopw [4, 5] (fun v i wr => ∃ (k f n : Nat) (ls : List (List UInt8)), i = .int .i64 (k : Int) ∧ k ≤ s.size ∧ s.size - k ≤ f ∧ n ≤ k ∧ Hid (alls s.data.toList = (ls ++ (allF s.data.toList (f + 1) k).1, (allF s.data.toList (f + 1) k).2)) ∧ wr.ownsRow w.heap.size 9 1 v n (strL ls) ∧ Below w.heap.size w wr) (fun _ i _ => s.size - (intOf i).toNat)
  case atStart => exact ⟨0, s.size, 0, [], rfl, Nat.zero_le _, by omega, by omega, Lib.hid (by unfold alls; rw [size_list]; rfl), World.ownsRow_nil .., Below.refl _ _⟩
  case round =>
    obtain ⟨k, f, n, ls, rfl, hk, hf, hnk, HA, hown, hb⟩ := hrel
    have hk0 : (0 : Int) ≤ (k : Int) := by omega
    have hks : (k : Int) ≤ (s.size : Int) := by omega
    obtain ⟨A, c, rfl, hq1, hq2⟩ := own_shape hown
    have HQ := Lib.hid (And.intro hq1 hq2)
    clear hq1 hq2
    by_cases hlt : k < s.size
    · have hltz : (k : Int) < (s.size : Int) := by omega
      have htk := rtake_any (s.extract k s.size) (by rw [ByteArray.size_extract]; omega) wr
      rw [Lib.extract_to_end] at htk
      by_cases he : (tkL (s.data.toList.drop k)).2.2 = 0
      · obtain ⟨t, m, hr⟩ : ∃ t m, tkL (s.data.toList.drop k) = (t, m, 0) := ⟨_, _, by rw [← he]⟩
        have hp := tkL_pos hr
        rw [List.length_drop, size_list] at hp
        have hnext := HA.out
        rw [allF_ok hr] at hnext
        rw [hr] at htk
        unfold tkV at htk
        have HTK := Lib.hid htk
        have HN := Lib.hid hnext
        clear htk hnext he hr HA
        generalize hL : (⟨t.toArray⟩ : ByteArray) = L at *
        have HL := Lib.hid hL
        clear hL
        go_wp2_with fail
        refine HTK.out.mono ?_
        rintro e w1 ⟨rfl, rfl⟩
        go_wp2_with (at_builtin; refine append_str rfl (.tmp 25) (.tmp 27) rfl w.heap.size _ n (strL ls) L rfl hown wr.heap.size (by simp) rfl (by omega) hb.size ?_; intro v1 w1 hown1 hg1)
        have hb1 : Below w.heap.size w w1 := hb.grown hg1 hb.size (fun j hj => (hown.lt j hj).1)
        go_roundw
        case rel => exact ⟨k + m, f - 1, n + 1, ls ++ [t], by go_num, by omega, by omega, by omega, Lib.hid (by
          rw [HN.out, List.append_assoc]
          obtain ⟨f2, rfl⟩ : ∃ f2, f = f2 + 1 := ⟨f - 1, by omega⟩
          rfl), by rw [← HL.out, strL_snoc] at hown1; exact hown1, hb1⟩
        case measure => simp [intOf]; omega
      · have hend := HA.out
        rw [allF_no he, List.append_nil] at hend
        generalize tkL (s.data.toList.drop k) = R at *
        obtain ⟨t, m, e0⟩ := R
        unfold tkV at htk
        have HTK := Lib.hid htk
        have HN := Lib.hid hend
        have hne : ((e0 : Int) != 0) = true := by rw [bne_iff_ne]; simp only at he; omega
        clear htk hend he HA
        go_wp2_with fail
        refine HTK.out.mono ?_
        rintro e w1 ⟨rfl, rfl⟩
        go_wp2_with fail
        go_ret2
        exact ⟨A, n, c, by rw [HN.out]; rfl, by rw [HN.out]; exact Reads.of_own hown, hb, HQ.out.1, HQ.out.2⟩
    · obtain rfl : k = s.size := by omega
      have hnl : ¬ (s.size : Int) < (s.size : Int) := by omega
      have hend := HA.out
      have he : (tkL (s.data.toList.drop s.size)).2.2 ≠ 0 := by
        rw [List.drop_of_length_le (by rw [size_list]; exact Nat.le_refl _)]
        exact tkL_nil
      rw [allF_no he, List.append_nil] at hend
      have HN := Lib.hid hend
      clear hend he HA
      go_wp2_with fail
      go_ret2
      exact ⟨A, n, c, by rw [HN.out]; rfl, by rw [HN.out]; exact Reads.of_own hown, hb, HQ.out.1, HQ.out.2⟩
end Go.Proofs.YtcbkgcnajplagaaDoor
