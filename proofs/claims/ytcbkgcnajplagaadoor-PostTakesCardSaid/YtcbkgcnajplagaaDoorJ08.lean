/- Words for memory: a slice that reads as a list, a value that reads as a tree, and what keeps them. Conditions: none. -/
import Derived.Test.YtcbkgcnajplagaaDoorJ07
import Derived.Below
import Derived.Laws.OwnMore
import Derived.Deep.AppendLies
import Derived.Deep.Draws
import Derived.OwnWalk
import Derived.Lib.OthersKept
import Derived.Maps.AppendAt
import Derived.RegionTactic
set_option linter.unusedVariables false
set_option linter.unusedSimpArgs false
namespace Go.Proofs.YtcbkgcnajplagaaDoor.Be
open Go Go.RowKit
theorem block_of_add (a : Addr) (n : Nat) : (a.add n).block = a.block := by unfold Addr.add; split <;> rfl
theorem add_of_add (a : Addr) (i j : Nat) : (a.add i).add j = a.add (i + j) := by
  unfold Addr.add
  by_cases hi : i = 0 <;> by_cases hj : j = 0 <;> simp [hi, hj, Nat.add_assoc]
theorem add_flat (b i j : Nat) : (⟨b, i, none⟩ : Addr).add j = ⟨b, i + j, none⟩ := by
  unfold Addr.add
  split
  · simp_all
  · rfl

/-- A slice's elements, in blocks that are allowed. -/
structure ReadsP (ok : Nat → Prop) (w : World) (size : Nat) (A : Option Addr) (n : Nat) (xs : List Value) : Prop where
  len : xs.length = n * size
  at_ : 0 < n → ∃ ad, A = some ad ∧ ok ad.block ∧ ad.block < w.heap.size ∧ w.frozen? ad = false ∧ ∀ j u, xs[j]? = some u → w.cell? (ad.add j) = some u
/-- What is allowed stays as it is. -/
def Keeps (ok : Nat → Prop) (w w' : World) : Prop := w.heap.size ≤ w'.heap.size ∧ ∀ b, ok b → b < w.heap.size → w'.heap[b]? = w.heap[b]?
theorem Keeps.refl (ok : Nat → Prop) (w : World) : Keeps ok w w := ⟨Nat.le_refl _, fun _ _ _ => rfl⟩
theorem Keeps.trans {ok : Nat → Prop} {a b c : World} (h : Keeps ok a b) (k : Keeps ok b c) : Keeps ok a c := ⟨Nat.le_trans h.1 k.1, fun i hi hl => (k.2 i hi (Nat.lt_of_lt_of_le hl h.1)).trans (h.2 i hi hl)⟩
theorem Keeps.of_below {ok : Nat → Prop} {B : Nat} {w w' : World} (h : Below B w w') (hok : ∀ b, ok b → b < w.heap.size → b < B) : Keeps ok w w' := ⟨h.size, fun b hb hl => h.block b (hok b hb hl)⟩
theorem Keeps.of_grown {ok : Nat → Prop} {row : Option Nat} {w w' : World} (h : w.grownBy w' row) (hok : ∀ b, ok b → some b ≠ row) : Keeps ok w w' := ⟨h.size, fun b hb hl => h.block b hl (hok b hb)⟩
theorem ReadsP.keep {ok : Nat → Prop} {w w' : World} {size n : Nat} {A : Option Addr} {xs : List Value} (h : ReadsP ok w size A n xs) (k : Keeps ok w w') : ReadsP ok w' size A n xs :=
  ⟨h.len, fun hn => by
    obtain ⟨ad, e, hb, hlt, hf, hc⟩ := h.at_ hn
    have hk := k.2 _ hb hlt
    refine ⟨ad, e, hb, Nat.lt_of_lt_of_le hlt k.1, ?_, fun j u hj => ?_⟩
    · rw [World.frozen?_of_block (w := w) hk]; exact hf
    · rw [World.cell?_of_block (w := w) (by rw [block_of_add]; exact hk)]; exact hc j u hj⟩
theorem ReadsP.mono {ok ok' : Nat → Prop} {w : World} {size n : Nat} {A : Option Addr} {xs : List Value} (h : ReadsP ok w size A n xs) (k : ∀ b, ok b → b < w.heap.size → ok' b) : ReadsP ok' w size A n xs :=
  ⟨h.len, fun hn => by
    obtain ⟨ad, e, hb, hlt, hf, hc⟩ := h.at_ hn
    exact ⟨ad, e, k _ hb hlt, hlt, hf, hc⟩⟩
theorem ReadsP.none_ {ok : Nat → Prop} {w : World} {size : Nat} {A : Option Addr} : ReadsP ok w size A 0 [] := ⟨by simp, fun h => absurd h (by omega)⟩
mutual
/-- Four cells read as a value. -/
def Rd (ok : Nat → Prop) (w : World) : T → List Value → Prop
  | .mk k n s l, cs => ∃ A c xs, cs = [.int .i64 k, .int .i64 n, .string s, .slice A l.length c] ∧ s.size ≤ maxLen ∧ l.length ≤ c ∧ c ≤ maxLen ∧ ReadsP ok w 4 A l.length xs ∧ RdL ok w l xs
def RdL (ok : Nat → Prop) (w : World) : List T → List Value → Prop
  | [], xs => xs = []
  | t :: ts, xs => ∃ cs xs', xs = cs ++ xs' ∧ Rd ok w t cs ∧ RdL ok w ts xs'
end
mutual
theorem Rd.keep {ok : Nat → Prop} {w w' : World} (k : Keeps ok w w') : ∀ (t : T) (cs : List Value), Rd ok w t cs → Rd ok w' t cs
  | .mk _ _ _ l, cs, h => by
    rw [Rd] at h ⊢
    obtain ⟨A, c, xs, h1, h2, h3, h4, h5, h6⟩ := h
    exact ⟨A, c, xs, h1, h2, h3, h4, h5.keep k, RdL.keep k l xs h6⟩
theorem RdL.keep {ok : Nat → Prop} {w w' : World} (k : Keeps ok w w') : ∀ (l : List T) (xs : List Value), RdL ok w l xs → RdL ok w' l xs
  | [], xs, h => by rw [RdL] at h ⊢; exact h
  | t :: ts, xs, h => by
    rw [RdL] at h ⊢
    obtain ⟨cs, xs', h1, h2, h3⟩ := h
    exact ⟨cs, xs', h1, Rd.keep k t cs h2, RdL.keep k ts xs' h3⟩
end
mutual
theorem Rd.mono {ok ok' : Nat → Prop} {w : World} (k : ∀ b, ok b → b < w.heap.size → ok' b) : ∀ (t : T) (cs : List Value), Rd ok w t cs → Rd ok' w t cs
  | .mk _ _ _ l, cs, h => by
    rw [Rd] at h ⊢
    obtain ⟨A, c, xs, h1, h2, h3, h4, h5, h6⟩ := h
    exact ⟨A, c, xs, h1, h2, h3, h4, h5.mono k, RdL.mono k l xs h6⟩
theorem RdL.mono {ok ok' : Nat → Prop} {w : World} (k : ∀ b, ok b → b < w.heap.size → ok' b) : ∀ (l : List T) (xs : List Value), RdL ok w l xs → RdL ok' w l xs
  | [], xs, h => by rw [RdL] at h ⊢; exact h
  | t :: ts, xs, h => by
    rw [RdL] at h ⊢
    obtain ⟨cs, xs', h1, h2, h3⟩ := h
    exact ⟨cs, xs', h1, Rd.mono k t cs h2, RdL.mono k ts xs' h3⟩
end
theorem Rd.four {ok : Nat → Prop} {w : World} {t : T} {cs : List Value} (h : Rd ok w t cs) : cs.length = 4 := by
  cases t
  rw [Rd] at h
  obtain ⟨A, c, xs, rfl, _⟩ := h
  rfl
theorem RdL.len {ok : Nat → Prop} {w : World} : ∀ {l : List T} {xs : List Value}, RdL ok w l xs → xs.length = l.length * 4
  | [], xs, h => by rw [RdL] at h; subst h; rfl
  | t :: ts, xs, h => by
    rw [RdL] at h
    obtain ⟨cs, xs', rfl, h2, h3⟩ := h
    have := RdL.len h3
    have := h2.four
    simp; omega
theorem RdL.get {ok : Nat → Prop} {w : World} : ∀ {l : List T} {xs : List Value} {i : Nat}, RdL ok w l xs → (hi : i < l.length) → ∃ cs, Rd ok w l[i] cs ∧ ∀ j, j < 4 → xs[i * 4 + j]? = cs[j]?
  | t :: ts, xs, 0, h, _ => by
    rw [RdL] at h
    obtain ⟨cs, xs', rfl, h2, h3⟩ := h
    refine ⟨cs, h2, fun j hj => ?_⟩
    rw [List.getElem?_append_left (by rw [h2.four]; omega)]
    simp
  | t :: ts, xs, i + 1, h, hi => by
    rw [RdL] at h
    obtain ⟨cs, xs', rfl, h2, h3⟩ := h
    obtain ⟨ds, h4, h5⟩ := RdL.get h3 (by simp at hi; omega : i < ts.length)
    refine ⟨ds, h4, fun j hj => ?_⟩
    rw [List.getElem?_append_right (by rw [h2.four]; omega), h2.four, show (i + 1) * 4 + j - 4 = i * 4 + j by omega]
    exact h5 j hj
theorem RdL.snoc {ok : Nat → Prop} {w : World} {t : T} {cs : List Value} (ht : Rd ok w t cs) : ∀ {l : List T} {xs : List Value}, RdL ok w l xs → RdL ok w (l ++ [t]) (xs ++ cs)
  | [], xs, h => by
    rw [RdL] at h
    subst h
    exact ⟨cs, [], by simp, ht, rfl⟩
  | u :: us, xs, h => by
    rw [RdL] at h
    obtain ⟨ds, xs', rfl, h2, h3⟩ := h
    rw [List.cons_append, RdL]
    exact ⟨ds, xs' ++ cs, by simp, h2, RdL.snoc ht h3⟩
theorem RdL.drop {ok : Nat → Prop} {w : World} : ∀ {l : List T} {xs : List Value} (i : Nat), RdL ok w l xs → RdL ok w (l.drop i) (xs.drop (i * 4))
  | l, xs, 0, h => by simpa using h
  | [], xs, i + 1, h => by
    rw [RdL] at h
    subst h
    simp [RdL]
  | t :: ts, xs, i + 1, h => by
    rw [RdL] at h
    obtain ⟨cs, xs', rfl, h2, h3⟩ := h
    have e : (cs ++ xs').drop ((i + 1) * 4) = xs'.drop (i * 4) := by
      have := h2.four
      rw [List.drop_append, List.drop_eq_nil_of_le (as := cs) (by omega), List.nil_append, this, show (i + 1) * 4 - 4 = i * 4 by omega]
    rw [List.drop_succ_cons, e]
    exact RdL.drop i h3
mutual
theorem Rd.one {ok : Nat → Prop} {w : World} : ∀ (t : T) (cs : List Value), Rd ok w t cs → ∀ u ∈ cs, u.oneCell' = true
  | .mk k n s l, cs, h => by
    rw [Rd] at h
    obtain ⟨A, c, xs, rfl, _⟩ := h
    intro u hu
    simp at hu
    rcases hu with rfl | rfl | rfl | rfl <;> rfl
theorem RdL.one {ok : Nat → Prop} {w : World} : ∀ (l : List T) (xs : List Value), RdL ok w l xs → ∀ u ∈ xs, u.oneCell' = true
  | [], xs, h => by
    rw [RdL] at h
    subst h
    intro u hu
    cases hu
  | t :: ts, xs, h => by
    rw [RdL] at h
    obtain ⟨cs, xs', rfl, h2, h3⟩ := h
    intro u hu
    rcases List.mem_append.1 hu with hu | hu
    · exact Rd.one t cs h2 u hu
    · exact RdL.one ts xs' h3 u hu
end
mutual
/-- A value that is held: an int, a string, a list of such. -/
def Hv (ok : Nat → Prop) (w : World) : T → Value → Prop
  | .mk k n s l, v => (k = 1 ∧ v = .iface 3 (.int .i64 n)) ∨ (k = 2 ∧ v = .iface 9 (.string s)) ∨ (k = 3 ∧ ∃ A c xs, v = .iface 125 (.slice A l.length c) ∧ l.length ≤ 1000000000 ∧ ReadsP ok w 1 A l.length xs ∧ HvL ok w l xs)
def HvL (ok : Nat → Prop) (w : World) : List T → List Value → Prop
  | [], xs => xs = []
  | t :: ts, xs => ∃ v xs', xs = v :: xs' ∧ Hv ok w t v ∧ HvL ok w ts xs'
end
mutual
theorem Hv.keep {ok : Nat → Prop} {w w' : World} (k : Keeps ok w w') : ∀ (t : T) (v : Value), Hv ok w t v → Hv ok w' t v
  | .mk _ _ _ l, v, h => by
    rw [Hv] at h ⊢
    rcases h with h | h | ⟨h0, A, c, xs, h1, h2, h3, h4⟩
    · exact .inl h
    · exact .inr (.inl h)
    · exact .inr (.inr ⟨h0, A, c, xs, h1, h2, h3.keep k, HvL.keep k l xs h4⟩)
theorem HvL.keep {ok : Nat → Prop} {w w' : World} (k : Keeps ok w w') : ∀ (l : List T) (xs : List Value), HvL ok w l xs → HvL ok w' l xs
  | [], xs, h => by rw [HvL] at h ⊢; exact h
  | t :: ts, xs, h => by
    rw [HvL] at h ⊢
    obtain ⟨v, xs', h1, h2, h3⟩ := h
    exact ⟨v, xs', h1, Hv.keep k t v h2, HvL.keep k ts xs' h3⟩
end
mutual
theorem Hv.mono {ok ok' : Nat → Prop} {w : World} (k : ∀ b, ok b → b < w.heap.size → ok' b) : ∀ (t : T) (v : Value), Hv ok w t v → Hv ok' w t v
  | .mk _ _ _ l, v, h => by
    rw [Hv] at h ⊢
    rcases h with h | h | ⟨h0, A, c, xs, h1, h2, h3, h4⟩
    · exact .inl h
    · exact .inr (.inl h)
    · exact .inr (.inr ⟨h0, A, c, xs, h1, h2, h3.mono k, HvL.mono k l xs h4⟩)
theorem HvL.mono {ok ok' : Nat → Prop} {w : World} (k : ∀ b, ok b → b < w.heap.size → ok' b) : ∀ (l : List T) (xs : List Value), HvL ok w l xs → HvL ok' w l xs
  | [], xs, h => by rw [HvL] at h ⊢; exact h
  | t :: ts, xs, h => by
    rw [HvL] at h ⊢
    obtain ⟨v, xs', h1, h2, h3⟩ := h
    exact ⟨v, xs', h1, Hv.mono k t v h2, HvL.mono k ts xs' h3⟩
end
theorem HvL.len {ok : Nat → Prop} {w : World} : ∀ {l : List T} {xs : List Value}, HvL ok w l xs → xs.length = l.length
  | [], xs, h => by rw [HvL] at h; subst h; rfl
  | t :: ts, xs, h => by
    rw [HvL] at h
    obtain ⟨v, xs', rfl, h2, h3⟩ := h
    simp [HvL.len h3]
theorem HvL.get {ok : Nat → Prop} {w : World} : ∀ {l : List T} {xs : List Value} {i : Nat}, HvL ok w l xs → (hi : i < l.length) → ∃ v, Hv ok w l[i] v ∧ xs[i]? = some v
  | t :: ts, xs, 0, h, _ => by
    rw [HvL] at h
    obtain ⟨v, xs', rfl, h2, h3⟩ := h
    exact ⟨v, h2, rfl⟩
  | t :: ts, xs, i + 1, h, hi => by
    rw [HvL] at h
    obtain ⟨v, xs', rfl, h2, h3⟩ := h
    obtain ⟨u, h4, h5⟩ := HvL.get h3 (by simp at hi; omega : i < ts.length)
    exact ⟨u, h4, by simpa using h5⟩
theorem HvL.snoc {ok : Nat → Prop} {w : World} {t : T} {v : Value} (ht : Hv ok w t v) : ∀ {l : List T} {xs : List Value}, HvL ok w l xs → HvL ok w (l ++ [t]) (xs ++ [v])
  | [], xs, h => by
    rw [HvL] at h
    subst h
    exact ⟨v, [], by simp, ht, rfl⟩
  | u :: us, xs, h => by
    rw [HvL] at h
    obtain ⟨x, xs', rfl, h2, h3⟩ := h
    rw [List.cons_append, HvL]
    exact ⟨x, xs' ++ [v], by simp, h2, HvL.snoc ht h3⟩

theorem ReadsP.of_own {w : World} {base : Nat} {e : TypeId} {size n c : Nat} {A : Option Addr} {xs : List Value} (h : w.ownsRow base e size (.slice A n c) n xs) : ReadsP (fun b => base ≤ b) w size A n xs := by
  refine ⟨h.1, fun hn => ?_⟩
  obtain ⟨g, cap, hv, hb, hlt⟩ := h.form hn
  have hA : A = some ⟨g, 0, none⟩ := by injection hv
  subst hA
  have hc := h.cells (g := g) rfl
  refine ⟨_, rfl, hb, hlt, ?_, hc⟩
  injection hv with _ _ hcap
  subst hcap
  exact h.frozenAt 0
theorem own_shape {w : World} {base : Nat} {e : TypeId} {size : Nat} {v : Value} {n : Nat} {xs : List Value} (h : w.ownsRow base e size v n xs) : ∃ A c, v = .slice A n c ∧ n ≤ c ∧ c ≤ maxLen := by
  rcases h.2 with ⟨rfl, rfl⟩ | ⟨g, cap, cur, rfl, _, _, h1, h2, _⟩
  · exact ⟨_, _, rfl, Nat.le_refl _, by simp [maxLen]⟩
  · exact ⟨_, _, rfl, h1, h2⟩
theorem below_drewN {B : Nat} {a w : World} (h : Below B a w) (n : Nat) : Below B a (w.drewN n) := ⟨h.os, h.tape, h.output, h.size, h.block⟩
theorem below_then {w w1 w2 : World} (h : Below w.heap.size w w1) (k : Below w1.heap.size w1 w2) : Below w.heap.size w w2 := h.trans (k.mono h.size)
theorem grown_below {a w : World} (h : Below a.heap.size a w) (row : Option Nat) : a.grownBy w row := ⟨h.os, h.tape, h.output, h.size, fun i hi _ => h.block i hi⟩
theorem grown_then {a b c : World} {row : Option Nat} (h : a.grownBy b row) (k : b.grownBy c row) : a.grownBy c row :=
  ⟨k.os.trans h.os, k.tape.trans h.tape, k.output.trans h.output, Nat.le_trans h.size k.size, fun i hi hne => (k.block i (Nat.lt_of_lt_of_le hi h.size) hne).trans (h.block i hi hne)⟩
theorem grown_drewN {a w : World} {row : Option Nat} (h : a.grownBy w row) (n : Nat) : a.grownBy (w.drewN n) row := ⟨h.os, h.tape, h.output, h.size, h.block⟩
theorem grown_setCell {a w : World} {R : Nat} (h : a.grownBy w (some R)) (p : Addr) (hp : p.block = R) (u : Value) : a.grownBy (w.setCell p u) (some R) :=
  ⟨h.os, h.tape, h.output, by simpa using h.size, fun i hi hne => by
    rw [Below.heap_setCell w p u i (by rintro rfl; exact hne (by rw [hp]))]
    exact h.block i hi hne⟩
theorem grown_then_far {a b c : World} {row row' : Option Nat} (h : a.grownBy b row) (k : b.grownBy c row') (hr : ∀ g, row' = some g → row = some g ∨ a.heap.size ≤ g) : a.grownBy c row :=
  ⟨k.os.trans h.os, k.tape.trans h.tape, k.output.trans h.output, Nat.le_trans h.size k.size, fun i hi hne => (k.block i (Nat.lt_of_lt_of_le hi h.size) (fun e => by
    rcases hr i e.symm with h1 | h1
    · exact hne h1.symm
    · omega)).trans (h.block i hi hne)⟩
theorem bcell {W w1 : World} (hb : Below W.heap.size W w1) : (∀ b o, b < W.heap.size → w1.cell? ⟨b, o, none⟩ = W.cell? ⟨b, o, none⟩) ∧ (∀ b o, b < W.heap.size → w1.frozen? ⟨b, o, none⟩ = W.frozen? ⟨b, o, none⟩) :=
  ⟨fun b o h => hb.cell (p := ⟨b, o, none⟩) h, fun b o h => hb.frozen (p := ⟨b, o, none⟩) h⟩
end Go.Proofs.YtcbkgcnajplagaaDoor.Be
