/- Levels of lists: plain mathematics, and lists of lists in memory. Conditions: none. -/
import Derived.Test.YtcgcocnbjijdaaaDoorFltD
import Derived.Test.YtcgcocnbjijdaaaDoorWrB
set_option linter.unusedVariables false
set_option linter.unusedSimpArgs false
namespace Go.Proofs.YtcgcocnbjijdaaaDoor
open Go Go.RowKit

mutual
def hgt : T → Nat
  | .mk _ _ _ l => hgtL l + 1
def hgtL : List T → Nat
  | [] => 0
  | t :: ts => max (hgt t) (hgtL ts)
end
mutual
def wt : T → Nat
  | .mk _ _ _ l => wtL l + 1
def wtL : List T → Nat
  | [] => 0
  | t :: ts => wt t + wtL ts
end
theorem hgtL_le : ∀ (l : List T) (n : Nat), hgtL l ≤ n ↔ ∀ t ∈ l, hgt t ≤ n
  | [], n => by simp [hgtL]
  | t :: ts, n => by simp [hgtL, ← hgtL_le ts n]; omega
theorem wtL_append : ∀ l m : List T, wtL (l ++ m) = wtL l + wtL m
  | [], m => by simp [wtL]
  | t :: ts, m => by simp [wtL, wtL_append ts m]; omega
theorem wtL_drop (l : List T) (j : Nat) : wtL (l.drop j) ≤ wtL l := by
  have : wtL l = wtL (l.take j) + wtL (l.drop j) := by rw [← wtL_append, List.take_append_drop]
  omega
theorem wtL_take (l : List T) (j : Nat) : wtL (l.take j) ≤ wtL l := by
  have : wtL l = wtL (l.take j) + wtL (l.drop j) := by rw [← wtL_append, List.take_append_drop]
  omega
theorem wtL_take_succ (l : List T) (j : Nat) (h : j < l.length) : wtL (l.take (j + 1)) = wtL (l.take j) + wt l[j] := by
  rw [List.take_succ_eq_append_getElem h, wtL_append]
  simp [wtL]
theorem wtL_len : ∀ l : List T, l.length ≤ wtL l
  | [] => by simp [wtL]
  | t :: ts => by
    have := wtL_len ts
    have : 1 ≤ wt t := by cases t; simp [wt]
    simp [wtL]; omega
/-- The weight of lists. -/
def sumW : List (List T) → Nat
  | [] => 0
  | l :: ls => wtL l + sumW ls
theorem sumW_append : ∀ a b : List (List T), sumW (a ++ b) = sumW a + sumW b
  | [], b => by simp [sumW]
  | l :: ls, b => by simp [sumW, sumW_append ls b]; omega
theorem sumW_take_succ (ls : List (List T)) (i : Nat) (h : i < ls.length) : sumW (ls.take (i + 1)) = sumW (ls.take i) + wtL ls[i] := by
  rw [List.take_succ_eq_append_getElem h, sumW_append]
  simp [sumW]
theorem sumW_take (ls : List (List T)) (i : Nat) : sumW (ls.take i) ≤ sumW ls := by
  have : sumW ls = sumW (ls.take i) + sumW (ls.drop i) := by rw [← sumW_append, List.take_append_drop]
  omega
/-- A list that is a part, from some place on, of a list that is a value of some lists. -/
def ChildOf (ls : List (List T)) (l' : List T) : Prop := ∃ l ∈ ls, ∃ t ∈ l, t.k = 3 ∧ ∃ j, l' = t.l.drop j
def AllH (h : Nat) (ls : List (List T)) : Prop := ∀ l ∈ ls, ∀ t ∈ l, hgt t ≤ h
def AllK (ls : List (List T)) : Prop := ∀ l ∈ ls, ∀ t ∈ l, kindsOk t = true
theorem hgt_child {t u : T} (h : u ∈ t.l) : hgt u + 1 ≤ hgt t := by
  obtain ⟨k, n, s, l⟩ := t
  have := (hgtL_le l _).1 (Nat.le_refl _) u h
  simp [hgt]
  exact this
theorem AllH.child {h : Nat} {ls ls' : List (List T)} (H : AllH (h + 1) ls) (hc : ∀ l' ∈ ls', ChildOf ls l') : AllH h ls' := by
  intro l' hl' u hu
  obtain ⟨l, hl, t, ht, _, j, rfl⟩ := hc l' hl'
  have h1 := H l hl t ht
  have h2 := hgt_child (List.mem_of_mem_drop hu)
  omega
theorem AllH.none {ls ls' : List (List T)} (H : AllH 0 ls) (hc : ∀ l' ∈ ls', ChildOf ls l') : ls' = [] := by
  rcases ls' with _ | ⟨l', ls'⟩
  · rfl
  · obtain ⟨l, hl, t, ht, _⟩ := hc l' (List.mem_cons_self ..)
    have := H l hl t ht
    cases t
    simp [hgt] at this
theorem AllK.child {ls ls' : List (List T)} (H : AllK ls) (hc : ∀ l' ∈ ls', ChildOf ls l') : AllK ls' := by
  intro l' hl' u hu
  obtain ⟨l, hl, t, ht, hk, j, rfl⟩ := hc l' hl'
  have h1 := H l hl t ht
  obtain ⟨k, n, s, tl⟩ := t
  simp only [T.k] at hk
  subst hk
  rcases kinds_cases h1 with h | h | ⟨_, h⟩
  · cases h
  · cases h
  · exact (kindsOkL_iff tl).1 h u (List.mem_of_mem_drop hu)
/-- A slice's elements, in blocks that are allowed; of marks nothing is said. -/
structure ReadsQ (ok : Nat → Prop) (w : World) (size : Nat) (A : Option Addr) (n : Nat) (xs : List Value) : Prop where
  len : xs.length = n * size
  at_ : 0 < n → ∃ ad, A = some ad ∧ ok ad.block ∧ ad.block < w.heap.size ∧ ∀ j u, xs[j]? = some u → w.cell? (ad.add j) = some u
theorem ReadsP.q {ok : Nat → Prop} {w : World} {size n : Nat} {A : Option Addr} {xs : List Value} (h : ReadsP ok w size A n xs) : ReadsQ ok w size A n xs :=
  ⟨h.len, fun hn => by
    obtain ⟨ad, e, hb, hlt, _, hc⟩ := h.at_ hn
    exact ⟨ad, e, hb, hlt, hc⟩⟩
theorem ReadsQ.keep {ok : Nat → Prop} {w w' : World} {size n : Nat} {A : Option Addr} {xs : List Value} (h : ReadsQ ok w size A n xs) (k : Keeps ok w w') : ReadsQ ok w' size A n xs :=
  ⟨h.len, fun hn => by
    obtain ⟨ad, e, hb, hlt, hc⟩ := h.at_ hn
    have hk := k.2 _ hb hlt
    refine ⟨ad, e, hb, Nat.lt_of_lt_of_le hlt k.1, fun j u hj => ?_⟩
    rw [World.cell?_of_block (w := w) (by rw [block_of_add]; exact hk)]; exact hc j u hj⟩
theorem elem_atQ {ok ok2 : Nat → Prop} {w : World} {A : Option Addr} {l : List T} {xs : List Value} {k : Nat} (hr : ReadsQ ok w 4 A l.length xs) (hl : RdL ok2 w l xs) (hk : k < l.length) :
    ∃ b o A' c', A = some ⟨b, o, none⟩ ∧ ok b ∧ b < w.heap.size ∧ RdA ok2 w l[k] (.agg #[.int .i64 l[k].k, .int .i64 l[k].n, .string l[k].s, .slice A' l[k].l.length c']) ∧
      w.cell? ⟨b, o + k * 4, none⟩ = some (.int .i64 l[k].k) ∧ w.cell? ⟨b, o + k * 4 + 1, none⟩ = some (.int .i64 l[k].n) ∧ w.cell? ⟨b, o + k * 4 + 2, none⟩ = some (.string l[k].s) ∧ w.cell? ⟨b, o + k * 4 + 3, none⟩ = some (.slice A' l[k].l.length c') := by
  obtain ⟨ad, rfl, hb, hlt, hc⟩ := hr.at_ (by omega)
  obtain ⟨cs, hcs, hx⟩ := hl.get hk
  generalize l[k] = u at hcs
  obtain ⟨ku, nu, su, lu⟩ := u
  rw [Rd] at hcs
  obtain ⟨A', c', ys, rfl, h2, h3, h4, h5, h6⟩ := hcs
  have hsp : ad = ⟨ad.block, ad.off, none⟩ := by
    obtain ⟨u0, hu0⟩ : ∃ u0, xs[0]? = some u0 := by
      have := hr.len
      exact ⟨xs[0]'(by omega), List.getElem?_eq_getElem (by omega)⟩
    have h0 := hc 0 u0 hu0
    obtain ⟨ab, ao, asp⟩ := ad
    cases asp with
    | none => rfl
    | some z => simp [World.cell?, Addr.add] at h0; split at h0 <;> cases h0
  obtain ⟨ab, ao, asp⟩ := ad
  injection hsp with _ _ hs
  subst hs
  have hcell : ∀ j, j < 4 → ∀ u, ([.int .i64 ku, .int .i64 nu, .string su, .slice A' lu.length c'] : List Value)[j]? = some u → w.cell? ⟨ab, ao + (k * 4 + j), none⟩ = some u := by
    intro j hj u hu
    have := hc (k * 4 + j) u (by rw [hx j hj]; exact hu)
    rwa [add_flat] at this
  refine ⟨ab, ao, A', c', rfl, hb, hlt, ⟨A', c', ys, rfl, h2, h3, h4, h5, h6⟩, ?_, ?_, ?_, ?_⟩
  · exact hcell 0 (by omega) _ rfl
  · rw [Nat.add_assoc]; exact hcell 1 (by omega) _ rfl
  · rw [Nat.add_assoc]; exact hcell 2 (by omega) _ rfl
  · rw [Nat.add_assoc]; exact hcell 3 (by omega) _ rfl

/-- A slice that reads as a list of values. -/
def LvS (ok ok2 : Nat → Prop) (w : World) (v : Value) (ts : List T) : Prop := ∃ A c xs, v = .slice A ts.length c ∧ ts.length ≤ c ∧ c ≤ 9223372036854775807 ∧ ReadsQ ok w 4 A ts.length xs ∧ RdL ok2 w ts xs
def LvL (ok ok2 : Nat → Prop) (w : World) : List Value → List (List T) → Prop
  | [], ls => ls = []
  | v :: vs, ls => ∃ l ls', ls = l :: ls' ∧ LvS ok ok2 w v l ∧ LvL ok ok2 w vs ls'
theorem LvS.keep {ok ok2 : Nat → Prop} {w w' : World} {v : Value} {ts : List T} (h : LvS ok ok2 w v ts) (k : Keeps ok w w') (k2 : Keeps ok2 w w') : LvS ok ok2 w' v ts := by
  obtain ⟨A, c, xs, h1, h2, h3, h4, h5⟩ := h
  exact ⟨A, c, xs, h1, h2, h3, h4.keep k, RdL.keep k2 _ _ h5⟩
theorem LvL.keep {ok ok2 : Nat → Prop} {w w' : World} (k : Keeps ok w w') (k2 : Keeps ok2 w w') : ∀ {vs : List Value} {ls : List (List T)}, LvL ok ok2 w vs ls → LvL ok ok2 w' vs ls
  | [], ls, h => h
  | v :: vs, ls, ⟨l, ls', h1, h2, h3⟩ => ⟨l, ls', h1, h2.keep k k2, LvL.keep k k2 h3⟩
theorem LvL.len {ok ok2 : Nat → Prop} {w : World} : ∀ {vs : List Value} {ls : List (List T)}, LvL ok ok2 w vs ls → vs.length = ls.length
  | [], ls, h => by cases h; rfl
  | v :: vs, ls, ⟨l, ls', h1, h2, h3⟩ => by subst h1; simp [LvL.len h3]
theorem LvL.get {ok ok2 : Nat → Prop} {w : World} : ∀ {vs : List Value} {ls : List (List T)} {i : Nat}, LvL ok ok2 w vs ls → (hi : i < ls.length) → ∃ v, vs[i]? = some v ∧ LvS ok ok2 w v ls[i]
  | [], ls, i, h, hi => by cases h; simp at hi
  | v :: vs, ls, 0, ⟨l, ls', h1, h2, h3⟩, hi => by subst h1; exact ⟨v, rfl, h2⟩
  | v :: vs, ls, i + 1, ⟨l, ls', h1, h2, h3⟩, hi => by
    subst h1
    obtain ⟨u, hu, hs⟩ := LvL.get (i := i) h3 (by simp at hi; omega)
    exact ⟨u, by simpa using hu, by simpa using hs⟩
theorem LvL.snoc {ok ok2 : Nat → Prop} {w : World} {u : Value} {m : List T} (hu : LvS ok ok2 w u m) : ∀ {vs : List Value} {ls : List (List T)}, LvL ok ok2 w vs ls → LvL ok ok2 w (vs ++ [u]) (ls ++ [m])
  | [], ls, h => by cases h; exact ⟨m, [], rfl, hu, rfl⟩
  | v :: vs, ls, ⟨l, ls', h1, h2, h3⟩ => by
    subst h1
    exact ⟨l, ls' ++ [m], rfl, h2, LvL.snoc hu h3⟩
theorem ReadsQ.mono {ok ok' : Nat → Prop} {w : World} {size n : Nat} {A : Option Addr} {xs : List Value} (h : ReadsQ ok w size A n xs) (k : ∀ b, ok b → b < w.heap.size → ok' b) : ReadsQ ok' w size A n xs :=
  ⟨h.len, fun hn => by
    obtain ⟨ad, e, hb, hlt, hc⟩ := h.at_ hn
    exact ⟨ad, e, k _ hb hlt, hlt, hc⟩⟩
theorem LvS.mono {ok ok' ok2 : Nat → Prop} {w : World} {v : Value} {ts : List T} (h : LvS ok ok2 w v ts) (k : ∀ b, ok b → b < w.heap.size → ok' b) : LvS ok' ok2 w v ts := by
  obtain ⟨A, c, xs, h1, h2, h3, h4, h5⟩ := h
  exact ⟨A, c, xs, h1, h2, h3, h4.mono k, h5⟩
theorem LvL.mono {ok ok' ok2 : Nat → Prop} {w : World} (k : ∀ b, ok b → b < w.heap.size → ok' b) : ∀ {vs : List Value} {ls : List (List T)}, LvL ok ok2 w vs ls → LvL ok' ok2 w vs ls
  | [], ls, h => h
  | v :: vs, ls, ⟨l, ls', h1, h2, h3⟩ => ⟨l, ls', h1, h2.mono k, LvL.mono k h3⟩
/-- A part of a list that reads. -/
theorem LvS.drop {ok : Nat → Prop} {w : World} {A A' : Option Addr} {c c' : Nat} {ts : List T} {xs : List Value} {j : Nat} (hr : ReadsQ ok w 4 A ts.length xs) (hl : RdL ok w ts xs) (hj : j ≤ ts.length) (hc' : ts.length - j ≤ c') (hcm : c' ≤ 9223372036854775807)
    (hA : 0 < ts.length - j → A' = A.map (·.add (j * 4))) : LvS ok ok w (.slice A' (ts.length - j) c') (ts.drop j) := by
  refine ⟨A', c', xs.drop (j * 4), by rw [List.length_drop], by rw [List.length_drop]; exact hc', hcm, ⟨?_, fun hn => ?_⟩, RdL.drop j hl⟩
  · rw [List.length_drop, hr.len, List.length_drop, Nat.sub_mul]
  · rw [List.length_drop] at hn
    obtain ⟨ad, rfl, hb, hlt, hcell⟩ := hr.at_ (by omega)
    have hA' := hA hn
    simp only [Option.map_some] at hA'
    refine ⟨ad.add (j * 4), hA', by rw [block_of_add]; exact hb, by rw [block_of_add]; exact hlt, fun i u hu => ?_⟩
    rw [add_of_add]
    exact hcell _ u (by rw [← hu, List.getElem?_drop])
end Go.Proofs.YtcgcocnbjijdaaaDoor
