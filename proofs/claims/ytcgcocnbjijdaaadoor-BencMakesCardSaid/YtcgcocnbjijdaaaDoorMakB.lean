/- Lists within each other: plain. Conditions: none. -/
import Derived.Test.YtcgcocnbjijdaaaDoorMakA
set_option linter.unusedVariables false
set_option linter.unusedSimpArgs false
namespace Go.Proofs.YtcgcocnbjijdaaaDoor
open Go Go.RowKit

theorem wrap_k (n : Int) (s : ByteArray) : ∀ j, (wrap (tL n s) j).k = 3 ∧ (wrap (tL n s) j).n = 0 ∧ (wrap (tL n s) j).s = .empty
  | 0 => ⟨rfl, rfl, rfl⟩
  | j + 1 => ⟨rfl, rfl, rfl⟩
theorem wrap_kinds (n : Int) (s : ByteArray) : ∀ j, kindsOk (wrap (tL n s) j) = true
  | 0 => kinds_tL n s
  | j + 1 => by simp [wrap, kindsOk, kindsOkL, wrap_kinds n s j]
theorem wrap_wf (n : Int) (s : ByteArray) (h : wfT (tA n) = true) : ∀ j, wfT (wrap (tL n s) j) = true
  | 0 => wf_tL n s h
  | j + 1 => by simp [wrap, wfT, wfL, wrap_wf n s h j]
theorem wrap_wt (n : Int) (s : ByteArray) : ∀ j, wt (wrap (tL n s) j) = j + 3
  | 0 => by simp [wrap, tL, tA, tB, wt, wtL]
  | j + 1 => by rw [wrap, wt, wtL, wtL, wrap_wt n s j]
theorem wrap_deep (n : Int) (s : ByteArray) : ∀ j, deepT (wrap (tL n s) j) = j + 1
  | 0 => by simp [wrap, tL, tA, tB, deepT, deepL]
  | j + 1 => by simp [wrap, deepT, deepL, wrap_deep n s j]
theorem wrap_nest (n : Int) (s : ByteArray) : ∀ m j, m ≤ j → nest m (wrap (tL n s) j)
  | 0, j, _ => (wrap_k n s j).1
  | m + 1, j + 1, h => ⟨rfl, _, rfl, wrap_nest n s m j (by omega)⟩
theorem wrap_len (n : Int) (s : ByteArray) (hs : s.size ≤ 4096) (hn : wfT (tA n) = true) : ∀ j, (enc (wrap (tL n s) j)).length ≤ 5000 + 2 * j
  | 0 => by
    have h1 : -9223372036854775808 ≤ n ∧ n ≤ 9223372036854775807 := by
      simp [tA, wfT, wfL] at hn
      exact hn
    have h2 := itoa_len n h1.1 h1.2
    have h3 := itoa_len (s.size : Int) (by omega) (by omega)
    have h4 : s.data.size = s.size := rfl
    show (enc (tL n s)).length ≤ _
    unfold tL tA tB
    rw [enc_list, encL, encL, encL, enc_num, enc_text]
    simp [h4]
    omega
  | j + 1 => by
    have := wrap_len n s hs hn j
    rw [wrap, enc_list, encL, encL]
    simp
    omega
theorem wrap_good (n : Int) (s : ByteArray) (hs : s.size ≤ 4096) (hn : wfT (tA n) = true) (j : Nat) : gdT (wrap (tL n s) j) 0 [] = decide (j ≤ 7) := by
  have h1 := wrap_len n s hs hn j
  have h2 := wrap_deep n s j
  have h3 := wrap_kinds n s j
  by_cases h : j ≤ 7
  · rw [decide_eq_true h]
    exact gdT_iff.2 ⟨h3, by omega, by rw [List.nil_append]; omega⟩
  · rw [decide_eq_false h, Bool.eq_false_iff]
    intro hg
    have := (gdT_iff.1 hg).2.1
    omega
/-- What Put tells of it. -/
theorem wrap_put (n : Int) (s : ByteArray) (hs : s.size ≤ 4096) (hn : wfT (tA n) = true) (j : Nat) (hj : j ≤ 15) (v : Value) (w : World) (hr : RdA Tr w (wrap (tL n s) j) v) (hT : Tabs w w.heap.size) :
    Calls Tryd.prog 12 #[v] w fun e w' => e = .returned (.tuple #[.string (if j ≤ 7 then ⟨(enc (wrap (tL n s) j)).toArray⟩ else ⟨#[]⟩), .int .i64 (if j ≤ 7 then 0 else 22)]) ∧ Below w.heap.size w w' := by
  have hg := wrap_good n s hs hn j
  refine (put_any (wrap (tL n s) j) v w (hr.mono (fun b _ h => h)) (by rw [wrap_wt]; omega) (wrap_wf n s hn j) hT).mono ?_
  rintro e w' ⟨hb, h⟩
  by_cases h7 : j ≤ 7
  · rw [hg, decide_eq_true h7, if_pos rfl] at h
    rw [if_pos h7, if_pos h7]
    exact ⟨h, hb⟩
  · rw [hg, decide_eq_false h7, if_neg (by simp)] at h
    obtain ⟨x, rfl, hx⟩ := h
    have := hx.2.1 (wrap_kinds n s j) (wrap_nest n s 8 j (by omega))
    subst this
    rw [if_neg h7, if_neg h7]
    exact ⟨rfl, hb⟩
/-- .. and Only of its bytes. -/
theorem wrap_only (n : Int) (s : ByteArray) (hs : s.size ≤ 4096) (hn : wfT (tA n) = true) (j : Nat) (hj : j ≤ 7) (w : World) :
    Calls Tryd.prog 16 #[.string ⟨(enc (wrap (tL n s) j)).toArray⟩] w (OOut (tidy (wrap (tL n s) j), 0) w) := by
  have h1 := wrap_len n s hs hn j
  have hg := wrap_good n s hs hn j
  rw [decide_eq_true hj] at hg
  have hp : PutIs (wrap (tL n s) j) ⟨(enc (wrap (tL n s) j)).toArray⟩ 0 := by unfold PutIs; rw [if_pos hg]; exact ⟨rfl, rfl⟩
  have hb := (back_res ByteArray.empty hp (wrap_wf n s hn j)).1
  rw [ByteArray.append_empty] at hb
  have hsz : (⟨(enc (wrap (tL n s) j)).toArray⟩ : ByteArray).size = (enc (wrap (tL n s) j)).length := by simp [ByteArray.size]
  have ho : onlyRes (⟨(enc (wrap (tL n s) j)).toArray⟩ : ByteArray).data.toList = .ok (tidy (wrap (tL n s) j)) := by
    unfold onlyRes
    rw [hb]
    simp only
    rw [if_neg (by rw [hsz]; simp)]
  refine (only_any _ (by omega) w).mono ?_
  rintro e w' h
  rw [ho] at h
  obtain ⟨v, he, hr, hb⟩ := h
  obtain ⟨A, c, rfl, _⟩ := hr.rd
  exact ⟨A, c, he, hr.any, hb⟩
theorem blk_store {w : World} {b : Nat} {a0 a1 a2 a3 : Value} (h : w.heap[b]? = some (.cells #[a0, a1, a2, a3] 24 (0, 0))) (c0 c1 c2 c3 : Value) :
    ((((w.setCell ⟨b, 0, none⟩ c0).setCell ⟨b, 1, none⟩ c1).setCell ⟨b, 2, none⟩ c2).setCell ⟨b, 3, none⟩ c3).heap[b]? = some (.cells #[c0, c1, c2, c3] 24 (0, 0)) := by
  simp [World.setCell, Array.getElem?_modify, h]
end Go.Proofs.YtcgcocnbjijdaaaDoor
