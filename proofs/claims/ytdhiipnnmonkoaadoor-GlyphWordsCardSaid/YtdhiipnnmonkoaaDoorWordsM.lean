/- Plain facts on words between blanks, and on small letters. Conditions: none. -/
import Derived.Test.YtdhiipnnmonkoaaDoorFold
import Derived.Test.YtdhiipnnmonkoaaDoorMemB
set_option linter.unusedVariables false
namespace Go.Proofs.YtdhiipnnmonkoaaDoor
open Go Go.RowKit

def flush (cur : List Int) : List (List Int) := if cur = [] then [] else [cur]
def wordsGo : List Int → List Int → List (List Int)
  | cur, [] => flush cur
  | cur, r :: t => if blankB r then flush cur ++ wordsGo [] t else wordsGo (cur ++ [r]) t
def wordsL (l : List Int) : List (List Int) := wordsGo [] l
/-- Words as cells. -/
def strs (ws : List (List Int)) : List Value := ws.map fun u => Value.string ⟨(enc u).toArray⟩
theorem strs_append (a b : List (List Int)) : strs (a ++ b) = strs a ++ strs b := by simp [strs]
theorem strs_len (a : List (List Int)) : (strs a).length = a.length := by simp [strs]
theorem flush_nil : flush [] = [] := rfl
theorem flush_cons {c : List Int} (h : c ≠ []) : flush c = [c] := by simp [flush, h]
theorem words_blank (cur : List Int) {r : Int} (h : blankB r = true) (t : List Int) : wordsGo cur (r :: t) = flush cur ++ wordsGo [] t := by simp [wordsGo, h]
theorem words_more (cur : List Int) {r : Int} (h : blankB r = false) (t : List Int) : wordsGo cur (r :: t) = wordsGo (cur ++ [r]) t := by simp [wordsGo, h]
theorem words_join {b : Int} (hb : blankB b = true) (t : List Int) : ∀ (a cur : List Int), wordsGo cur (a ++ b :: t) = wordsGo cur a ++ wordsGo [] t
  | [], cur => words_blank cur hb t
  | r :: a, cur => by
    cases h : blankB r with
    | true => rw [List.cons_append, words_blank cur h, words_blank cur h, words_join hb t a [], List.append_assoc]
    | false => rw [List.cons_append, words_more cur h, words_more cur h, words_join hb t a]
theorem blank_fold (n : Int) : blankB (foldR n) = blankB n := by
  rcases foldR_cases n with ⟨hg, e, h0, h1⟩ | ⟨_, e⟩
  · rw [e]
    have := (greatB_iff n).1 hg
    have a : blankB n = false := decide_eq_false (by omega)
    have b : blankB (n + 32) = false := decide_eq_false (by omega)
    rw [a, b]
  · rw [e]
theorem flush_fold (c : List Int) : (flush (foldL c)).length = (flush c).length := by
  cases c <;> simp [flush, foldL]
theorem words_fold : ∀ (l cur : List Int), (wordsGo (foldL cur) (foldL l)).length = (wordsGo cur l).length
  | [], cur => flush_fold cur
  | r :: t, cur => by
    have e : foldL (r :: t) = foldR r :: foldL t := rfl
    rw [e]
    cases h : blankB r with
    | true =>
      rw [words_blank cur h, words_blank _ (by rw [blank_fold]; exact h), List.length_append, List.length_append, flush_fold]
      have := words_fold t []
      rw [show foldL [] = [] from rfl] at this
      rw [this]
    | false =>
      rw [words_more cur h, words_more _ (by rw [blank_fold]; exact h)]
      have := words_fold t (cur ++ [r])
      rw [show foldL (cur ++ [r]) = foldL cur ++ [foldR r] by simp [foldL]] at this
      exact this
theorem words_len : ∀ (l cur : List Int), (wordsGo cur l).length ≤ cur.length + l.length
  | [], cur => by
    cases cur <;> simp [wordsGo, flush]
  | r :: t, cur => by
    cases h : blankB r with
    | true =>
      rw [words_blank cur h, List.length_append]
      have h1 := words_len t []
      have h2 : (flush cur).length ≤ 1 := by unfold flush; split <;> simp
      simp at h1 ⊢
      by_cases hc : cur = []
      · subst hc
        simp [flush]
        omega
      · omega
    | false =>
      rw [words_more cur h]
      have := words_len t (cur ++ [r])
      simp at this ⊢
      omega
theorem fold_fold (n : Int) : foldR (foldR n) = foldR n := by
  rcases foldR_cases n with ⟨hg, e, _, _⟩ | ⟨hg, e⟩
  · rw [e]
    have := (greatB_iff n).1 hg
    have a : greatB (n + 32) = false := great_no (by omega)
    simp [foldR, a]
  · rw [e, e]
theorem foldL_foldL (l : List Int) : foldL (foldL l) = foldL l := by
  simp [foldL, fold_fold]
theorem encodeRune_fold (n : Int) (h : isR n = true) : (Lib.encodeRune (foldR n)).length = (Lib.encodeRune n).length := by
  rcases foldR_cases n with ⟨hg, e, _, _⟩ | ⟨_, e⟩
  · rw [e]
    have := (greatB_iff n).1 hg
    by_cases c : n ≤ 90
    · rw [Lib.encodeRune, Lib.encodeRune, Lib.encodeRuneZ_one (by omega) (by omega), Lib.encodeRuneZ_one (by omega) (by omega)]
      rfl
    · rw [Lib.encodeRune, Lib.encodeRune, Lib.encodeRuneZ_two (by omega) (by omega), Lib.encodeRuneZ_two (by omega) (by omega)]
      rfl
  · rw [e]
theorem enc_fold_len : ∀ (l : List Int), Good l → (enc (foldL l)).length = (enc l).length
  | [], _ => rfl
  | r :: t, h => by
    rw [show foldL (r :: t) = foldR r :: foldL t from rfl, enc_cons, enc_cons, List.length_append, List.length_append, encodeRune_fold r h.head, enc_fold_len t h.tail]
theorem runeLen_enc (r : Int) (h : isR r = true) : Lib.runeLen r = ((Lib.encodeRune r).length : Int) := by
  obtain ⟨h0, h1, h2⟩ := (isR_iff r).1 h
  by_cases c1 : r ≤ 127
  · rw [Lib.encodeRune, Lib.encodeRuneZ_one h0 c1]
    unfold Lib.runeLen
    simp
    omega
  · by_cases c2 : r ≤ 2047
    · rw [Lib.encodeRune, Lib.encodeRuneZ_two (by omega) c2]
      unfold Lib.runeLen
      simp
      omega
    · by_cases c3 : r ≤ 65535
      · rw [Lib.encodeRune, Lib.encodeRuneZ_three (by omega)]
        unfold Lib.runeLen
        simp
        omega
      · rw [Lib.encodeRune, Lib.encodeRuneZ_four (by omega) h1]
        unfold Lib.runeLen
        simp
        omega
/-- A text and what is put behind it: whether it is one hangs on what is behind. -/
theorem noText_append {a : List Int} (ha : Good a) {t : List UInt8} (h : NoText t) : NoText (enc a ++ t) := by
  obtain ⟨rs, u, hg, rfl, h1, h2⟩ := h
  exact ⟨a ++ rs, u, ha.append hg, by rw [enc_append, List.append_assoc], h1, h2⟩
end Go.Proofs.YtdhiipnnmonkoaaDoor
