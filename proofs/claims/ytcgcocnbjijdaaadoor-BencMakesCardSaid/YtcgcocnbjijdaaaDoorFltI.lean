/- What isDeep of package benc returns: true or false; false of a value that is no list, true of a chain of nine lists. Conditions: the value reads as a tree. -/
import Derived.Test.YtcgcocnbjijdaaaDoorFltH
set_option linter.unusedVariables false
set_option linter.unusedSimpArgs false
namespace Go.Proofs.YtcgcocnbjijdaaaDoor
open Go Go.RowKit

/-- A list that holds one list, and so on. -/
def nest : Nat → T → Prop
  | 0, t => t.k = 3
  | n + 1, t => t.k = 3 ∧ ∃ u, t.l = [u] ∧ nest n u
/-- The lists so far within. -/
def lev : Nat → T → List (List T)
  | 0, t => [[t]]
  | 1, t => [t.l]
  | i + 2, t => match t.l with
    | [u] => lev (i + 1) u
    | _ => []
theorem nest_k {n : Nat} {t : T} (h : nest n t) : t.k = 3 := by
  cases n with
  | zero => exact h
  | succ n => exact h.1
theorem lev_down {t u : T} (h : t.l = [u]) : ∀ i, lev (i + 1) t = lev i u
  | 0 => by simp [lev, h]
  | i + 1 => by rw [lev, h]
theorem lev_step : ∀ (i n : Nat) (t : T), nest n t → i ≤ n → ∃ x, lev i t = [[x]] ∧ x.k = 3 ∧ lev (i + 1) t = [x.l]
  | 0, n, t, h, _ => ⟨t, rfl, nest_k h, rfl⟩
  | i + 1, 0, t, h, hi => by omega
  | i + 1, n + 1, t, h, hi => by
    obtain ⟨_, u, hu, hn⟩ := h
    obtain ⟨x, h1, h2, h3⟩ := lev_step i n u hn (by omega)
    exact ⟨x, (lev_down hu i).trans h1, h2, (lev_down hu (i + 1)).trans h3⟩
/-- A level of lists, so far within. -/
structure DR (t : T) (w : World) (lv : Value) (i : Nat) (wr : World) : Prop where
  ex : ∃ A m c vs ls, lv = .slice A m c ∧ m = ls.length ∧ m ≤ 1000000 ∧ ReadsQ (fun _ => True) wr 1 A m vs ∧ LvL (fun _ => True) (fun b => b < w.heap.size) wr vs ls ∧ sumW ls ≤ 100000 ∧ (i = 0 → ls = [[t]]) ∧ (t.k ≠ 3 → 0 < i → ls = []) ∧ (nest 8 t → ls = lev i t)
  bel : Below w.heap.size w wr
def DeepPost (t : T) (w : World) (e : Ending) (w' : World) : Prop := ∃ r, e = .returned (.bool r) ∧ (t.k ≠ 3 → r = false) ∧ (nest 8 t → r = true) ∧ Below w.heap.size w w'
theorem no_child {ls ls' : List (List T)} (H : ∀ l ∈ ls, ∀ u ∈ l, u.k ≠ 3) (hc : ∀ l' ∈ ls', ChildOf ls l') : ls' = [] := by
  rcases ls' with _ | ⟨l', ls'⟩
  · rfl
  · obtain ⟨l, hl, u, hu, hk, _⟩ := hc l' (List.mem_cons_self ..)
    exact absurd hk (H l hl u hu)
theorem DR.next {t : T} {w wr w5 : World} {v5 : Value} {k : Nat} {ls ls5 : List (List T)} {vs5 : List Value} (hk : k < 9) (hs : w.heap.size ≤ wr.heap.size) (hb : Below w.heap.size w (wr.alloc (.map #[] 0))) (h0 : k = 0 → ls = [[t]]) (h3 : t.k ≠ 3 → 0 < k → ls = []) (hn : nest 8 t → ls = lev k t) (hW : sumW ls ≤ 100000)
    (hI : WIn ls w.heap.size wr.heap.size (wr.alloc (.map #[] 0)) w5 v5 vs5 ls5 (sumW ls) ls.isEmpty) : DR t w v5 (k + 1) w5 := by
  obtain ⟨A5, c5, rfl, _⟩ := own_shape hI.own
  have hsum := hI.sum
  have hlen := hI.len
  refine ⟨⟨A5, _, c5, vs5, ls5, rfl, rfl, by omega, (ReadsP.of_own hI.own).q.mono (fun _ _ _ => trivial), hI.lvl.mono (fun _ _ _ => trivial), by omega, fun h => by omega, fun hk3 _ => ?_, fun hne => ?_⟩, hb.grown hI.grown hb.size (fun k hk => by injection hk; omega)⟩
  · refine no_child ?_ hI.child
    intro l hl u hu
    by_cases hk0 : k = 0
    · rw [h0 hk0] at hl
      simp at hl
      subst hl
      simp at hu
      subst hu
      exact hk3
    · rw [h3 hk3 (by omega)] at hl
      cases hl
  · obtain ⟨x, e1, e2, e3⟩ := lev_step k 8 t hne (by omega)
    have e4 := (hn hne).trans e1
    rw [e3]
    exact hI.ex (heap_alloc_new wr _) (by rw [e4]; rfl) x e4 e2
set_option maxRecDepth 100000 in
set_option maxHeartbeats 16000000 in
theorem isDeep_any (t : T) (v : Value) (w : World) (hRA : RdA (fun b => b < w.heap.size) w t v) (hW : wt t ≤ 100000) :
    Calls Tryd.prog 38 #[v] w (DeepPost t w) := by
  have hk := hRA
  obtain ⟨A, c, rfl, _⟩ := hRA.rd
  obtain ⟨w3, hw3⟩ : ∃ w3, w3 = ((w.alloc (.cells #[.int .i64 t.k, .int .i64 t.n, .string t.s, .slice A t.l.length c] 24)).alloc (.cells #[.int .i64 t.k, .int .i64 t.n, .string t.s, .slice A t.l.length c] 24)).alloc (.cells #[.slice (some ⟨w.heap.size + 1, 0, none⟩) 1 1] 22) := ⟨_, rfl⟩
  have hbel : Below w.heap.size w w3 := by
    subst hw3
    exact (((Below.refl _ _).alloc (Nat.le_refl _) _).alloc (by simp) _).alloc (by simp; omega) _
  have h1 : w3.heap[w.heap.size + 1]? = some (.cells #[.int .i64 t.k, .int .i64 t.n, .string t.s, .slice A t.l.length c] 24 (0, 0)) := by
    subst hw3
    rw [Below.heap_alloc _ _ _ (by simp)]
    have := heap_alloc_new (w.alloc (.cells #[.int .i64 t.k, .int .i64 t.n, .string t.s, .slice A t.l.length c] 24)) (.cells #[.int .i64 t.k, .int .i64 t.n, .string t.s, .slice A t.l.length c] 24)
    simpa using this
  have h2 : w3.heap[w.heap.size + 2]? = some (.cells #[.slice (some ⟨w.heap.size + 1, 0, none⟩) 1 1] 22 (0, 0)) := by
    subst hw3
    have := heap_alloc_new ((w.alloc (.cells #[.int .i64 t.k, .int .i64 t.n, .string t.s, .slice A t.l.length c] 24)).alloc (.cells #[.int .i64 t.k, .int .i64 t.n, .string t.s, .slice A t.l.length c] 24)) (.cells #[.slice (some ⟨w.heap.size + 1, 0, none⟩) 1 1] 22)
    simpa using this
  obtain ⟨hq, hl⟩ := lvl_one (ok := fun _ => True) h1 h2 trivial trivial (hk.keep (Keeps.of_below hbel (fun b hb _ => hb)))
  have hR : DR t w (.slice (some ⟨w.heap.size + 2, 0, none⟩) 1 1) 0 w3 :=
    ⟨⟨_, 1, 1, _, [[t]], rfl, rfl, by omega, hq, hl, by simpa [sumW, wtL] using hW, fun _ => rfl, fun _ h => by omega, fun _ => rfl⟩, hbel⟩
  have HRR := Lib.hid hR
  obtain ⟨hblk, _, _⟩ := box_start w (.int .i64 t.k) (.int .i64 t.n) (.string t.s) (.slice A t.l.length c)
  clear hR hq hl h1 h2 hk hbel
  have hmm := @run_makeMap Tryd.prog
  go_enter Tryd.func38, Tryd.ntmps38
  go_wp2_with fail
  subst hw3
  clear hblk
  go_loopw [3, 8] (fun lv i wr => ∃ k : Nat, i = .int .i64 (k : Int) ∧ k ≤ 9 ∧ DR t w lv k wr) (fun _ i _ => 9 - (intOf i).toNat)
  case atStart => exact ⟨0, rfl, by omega, HRR.out⟩
  case round =>
    obtain ⟨k, rfl, hk9, ⟨⟨A1, m, c1, vs, ls, rfl, hml, hm9, hq, hl, hWs, h0, h3, hn⟩, hbel⟩⟩ := hrel
    have HML := Lib.hid hml
    have H0 := Lib.hid h0
    have H3 := Lib.hid h3
    have HN := Lib.hid hn
    have HQ := Lib.hid hq
    have HL := Lib.hid hl
    clear hml h0 h3 hn hq hl
    by_cases hlt : k < 9
    · have hltz : (k : Int) < 9 := by omega
      have hmn := heap_alloc_new wr (.map #[] 0)
      have hbm : Below w.heap.size w (wr.alloc (.map #[] 0)) := hbel.alloc hbel.size _
      have hsz := hbel.size
      have hkp : ∀ ok, Keeps ok wr (wr.alloc (.map #[] 0)) := fun ok => Keeps.of_below ((Below.refl _ _).alloc (Nat.le_refl _) _) (fun b _ hl => hl)
      have hcall := within_any ls w.heap.size wr.heap.size A1 m c1 vs (wr.alloc (.map #[] 0)) (show MapNew _ _ from hmn).ok hsz ((HQ.out.mono (ok' := fun b => b ≠ wr.heap.size) (fun b _ hl => by omega)).keep (hkp _)) ((HL.out.mono (ok' := fun b => b ≠ wr.heap.size) (fun b _ hl => by omega)).keep (hkp _) (hkp _)) hWs hm9
      have HC := Lib.hid hcall
      have HBM := Lib.hid hbm
      clear hcall hkp hmn hbm
      go_wp2_with fail
      refine HC.out.mono ?_
      rintro e w5 ⟨v5, vs5, ls5, rfl, hI⟩
      have HD := Lib.hid (DR.next hlt hsz HBM.out H0.out H3.out HN.out hWs hI)
      obtain ⟨A5, c5, rfl, _⟩ := own_shape hI.own
      clear hI
      go_wp2_with fail
      go_roundw
      case rel => exact ⟨k + 1, by go_num, by omega, HD.out⟩
      case measure => simp [intOf]; omega
    · have hltz : ¬ (k : Int) < 9 := by omega
      have hk9' : k = 9 := by omega
      subst hk9'
      have hne : nest 8 t → 0 < m := fun h => by
        obtain ⟨x, e1, e2, e3⟩ := lev_step 8 8 t h (by omega)
        have := HML.out
        rw [HN.out h, e3] at this
        simp at this
        omega
      have hte : t.k ≠ 3 → ¬ 0 < m := fun h => by
        have := HML.out
        rw [H3.out h (by omega)] at this
        simp at this
        omega
      have HNE := Lib.hid hne
      have HTE := Lib.hid hte
      clear hne hte
      by_cases hm0 : 0 < m
      · have hm0z : (0 : Int) < (m : Int) := by omega
        go_wp2_with fail
        go_ret
        exact ⟨true, rfl, fun h => (HTE.out h hm0).elim, fun _ => rfl, hbel⟩
      · have hm0z : ¬ (0 : Int) < (m : Int) := by omega
        go_wp2_with fail
        go_ret
        exact ⟨false, rfl, fun _ => rfl, fun h => (hm0 (HNE.out h)).elim, hbel⟩
end Go.Proofs.YtcgcocnbjijdaaaDoor
