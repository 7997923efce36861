/- Slices that read as lists, in blocks that are allowed; what append makes of two of them. Conditions: none. -/
import Derived.Test.YtebcodbpgleoiaaLawT
set_option linter.unusedVariables false
set_option linter.unusedSimpArgs false
namespace Go.Proofs.Ytebcodbpgleoiaa
open Go Go.RowKit
/-- A slice's elements lie in a block that is allowed. -/
def Sl (w : World) (P : Nat → Prop) (size : Nat) (v : Value) (n : Nat) (xs : List Value) : Prop :=
  xs.length = n * size ∧ ((v = .slice none 0 0 ∧ n = 0) ∨ ∃ ad c, v = .slice (some ad) n c ∧ P ad.block ∧ n ≤ c ∧ c ≤ maxLen ∧ ∀ j u, xs[j]? = some u → w.cell? (ad.add j) = some u)
section
variable {w w' : World} {P P' : Nat → Prop} {size n : Nat} {v : Value} {xs : List Value}
theorem Sl.nil (w : World) (P : Nat → Prop) (size : Nat) : Sl w P size (.slice none 0 0) 0 [] := ⟨by simp, .inl ⟨rfl, rfl⟩⟩
theorem Sl.keep (h : Sl w P size v n xs) (hk : ∀ b, P b → w'.heap[b]? = w.heap[b]?) : Sl w' P size v n xs := by
  refine ⟨h.1, h.2.imp id ?_⟩
  rintro ⟨ad, c, e, hp, h1, h2, hc⟩
  exact ⟨ad, c, e, hp, h1, h2, fun j u hj => (World.cell?_of_block (hk _ (by rw [block_of_add]; exact hp))).trans (hc j u hj)⟩
theorem Sl.imp (h : Sl w P size v n xs) (hk : ∀ b, P b → P' b) : Sl w P' size v n xs := by
  refine ⟨h.1, h.2.imp id ?_⟩
  rintro ⟨ad, c, e, hp, r⟩
  exact ⟨ad, c, e, hk _ hp, r⟩
theorem Sl.shape (h : Sl w P size v n xs) : ∃ A c, v = .slice A n c ∧ n ≤ c ∧ c ≤ maxLen := by
  rcases h.2 with ⟨rfl, rfl⟩ | ⟨ad, c, rfl, _, h1, h2, _⟩
  · exact ⟨_, _, rfl, Nat.le_refl _, by simp [maxLen]⟩
  · exact ⟨_, _, rfl, h1, h2⟩
theorem Sl.of_own {base : Nat} {e : TypeId} (h : w.ownsRow base e size v n xs) : Sl w (fun b => base ≤ b ∧ b < w.heap.size) size v n xs := by
  refine ⟨h.1, ?_⟩
  rcases h.2 with ⟨rfl, rfl⟩ | ⟨g, cap, cur, rfl, hb, hg, h1, h2, _⟩
  · exact .inl ⟨rfl, rfl⟩
  · exact .inr ⟨_, _, rfl, ⟨hb, (Array.getElem?_eq_some_iff.1 hg).1⟩, h1, h2, h.cells rfl⟩
theorem Sl.below {B : Nat} (h : Sl w P size v n xs) (hP : ∀ b, P b → b < B) (hb : Below B w w') : Sl w' P size v n xs := h.keep fun b hp => hb.block b (hP b hp)
end
/-- append of a slice to a row of the call's own. -/
theorem append_sl {ops : Array Oper} {rest : List Oper} {o : Oper} {a : Act} {Q : Exit → Act → World → Prop} {W : World} (hgd : o.guard = none) (s x : Operand) (t E : TypeId)
    (ho : o.op = .call { callee := .builtin .append, args := #[s, x], argTypes := #[t, t] })
    (base : Nat) (i : TypeInfo) (z : Value) (size bytes : Nat) (ht : Try.prog.underlying t = some (.slice E)) (hi : Try.prog.info? E = some i) (hz : i.zero = some z)
    (hsize : i.size = size) (hby : i.bytes = bytes) (hzs : z.cells.size = size) (hsz : 0 < size) (hb100 : bytes ≤ 100)
    (v : Value) (n : Nat) (xs : List Value) (hs : a.eval s = v) (hown : W.ownsRow base E size v n xs) (P : Nat → Prop) (xv : Value) (m : Nat) (ys : List Value) (hx : a.eval x = xv) (hS : Sl W P size xv m ys)
    (h1 : ∀ u ∈ ys, u.oneCell' = true) (hn : n + m ≤ 1000000000) (hbase : base ≤ W.heap.size)
    (h : ∀ v' w', w'.ownsRow base E size v' (n + m) (xs ++ ys) → W.grownBy w' v.ownBlock → wpList Try.prog ops Q rest (a.put o.dst v') w') :
    wpList Try.prog ops Q (o :: rest) a W := by
  have hmul : (n + m) * bytes ≤ 140737488355328 := by
    have := Nat.mul_le_mul hn hb100
    omega
  have key : ∃ v' w', (Builtin.append_ #[t, t] o.type #[v, xv]).run Try.prog W = .ok v' w' ∧ w'.ownsRow base E size v' (n + m) (xs ++ ys) ∧ W.grownBy w' v.ownBlock := by
    obtain ⟨hl, hS⟩ := hS
    rcases hS with ⟨rfl, rfl⟩ | ⟨ad, c, rfl, _, _, _, hc⟩
    · have : ys = [] := List.eq_nil_of_length_eq_zero (by simpa using hl)
      subst this
      rw [List.append_nil]
      exact ⟨v, W, run_append_owned_none W base t o.type E i size ht hi v n xs hown, hown, ⟨rfl, rfl, rfl, Nat.le_refl _, fun _ _ _ => rfl⟩⟩
    · obtain ⟨v', w', hrun, h2, h3, _, _⟩ := run_append_own_at (P := Try.prog) W base t o.type E i z size bytes ht hi hz hsize hby hzs hsz v n xs hown ad m c ys hl hc h1 (by unfold maxLen; omega) hmul hbase
      exact ⟨v', w', hrun, h2, h3⟩
  obtain ⟨v', w', hrun, h2, h3⟩ := key
  refine wpList_plain hgd fun _ hK => ?_
  unfold Oper.wp execOp
  simp only [ho, resolve, invoke, builtin, Sem.run_bind, Sem.run_pure, Result.andThen_ok, List.map_toArray, List.map_cons, List.map_nil, hs, hx, hrun]
  exact hK _ _ (h v' w' h2 h3)
theorem append_strs {ops : Array Oper} {rest : List Oper} {o : Oper} {a : Act} {Q : Exit → Act → World → Prop} {W : World} (hgd : o.guard = none) (s x : Operand)
    (ho : o.op = .call { callee := .builtin .append, args := #[s, x], argTypes := #[28, 28] })
    (base : Nat) (v : Value) (n : Nat) (xs : List Value) (hs : a.eval s = v) (hown : W.ownsRow base 9 1 v n xs) (P : Nat → Prop) (xv : Value) (m : Nat) (l : List ByteArray) (hx : a.eval x = xv) (hS : Sl W P 1 xv m (strs l))
    (hn : n + m ≤ 1000000000) (hbase : base ≤ W.heap.size)
    (h : ∀ v' w', w'.ownsRow base 9 1 v' (n + m) (xs ++ strs l) → W.grownBy w' v.ownBlock → wpList Try.prog ops Q rest (a.put o.dst v') w') :
    wpList Try.prog ops Q (o :: rest) a W := by
  obtain ⟨i0, hi, hz0, hz1, hz2⟩ := info_parts str_row
  exact append_sl hgd s x 28 9 ho base i0 (.string ⟨#[]⟩) 1 16 Try.underlying28 hi hz0 hz1 hz2 rfl (by decide) (by decide) v n xs hs hown P xv m (strs l) hx hS (by intro u hu; obtain ⟨b, _, rfl⟩ := List.mem_map.1 hu; rfl) hn hbase h
/-- A loose write of the document's disk. -/
def wcell (p : Nat × ByteArray) : List Value := [.int .i64 (p.1 : Int), .string p.2]
theorem wr_row : (Try.prog.info? 59).map (fun i => (i.zero, i.size, i.bytes)) = some (some (.agg #[.int .i64 0, .string ⟨#[]⟩]), 2, 24) := by kernel_rfl
theorem wcell_one (l : List (Nat × ByteArray)) : ∀ u ∈ l.flatMap wcell, u.oneCell' = true := by
  intro u hu
  obtain ⟨x, _, h⟩ := List.mem_flatMap.1 hu
  simp [wcell] at h
  rcases h with rfl | rfl <;> rfl
theorem append_wrs {ops : Array Oper} {rest : List Oper} {o : Oper} {a : Act} {Q : Exit → Act → World → Prop} {W : World} (hgd : o.guard = none) (s x : Operand)
    (ho : o.op = .call { callee := .builtin .append, args := #[s, x], argTypes := #[29, 29] })
    (base : Nat) (v : Value) (n : Nat) (xs : List Value) (hs : a.eval s = v) (hown : W.ownsRow base 59 2 v n xs) (P : Nat → Prop) (xv : Value) (m : Nat) (l : List (Nat × ByteArray)) (hx : a.eval x = xv) (hS : Sl W P 2 xv m (l.flatMap wcell))
    (hn : n + m ≤ 1000000000) (hbase : base ≤ W.heap.size)
    (h : ∀ v' w', w'.ownsRow base 59 2 v' (n + m) (xs ++ l.flatMap wcell) → W.grownBy w' v.ownBlock → wpList Try.prog ops Q rest (a.put o.dst v') w') :
    wpList Try.prog ops Q (o :: rest) a W := by
  obtain ⟨i0, hi, hz0, hz1, hz2⟩ := info_parts wr_row
  exact append_sl hgd s x 29 59 ho base i0 _ 2 24 Try.underlying29 hi hz0 hz1 hz2 rfl (by decide) (by decide) v n xs hs hown P xv m _ hx hS (wcell_one l) hn hbase h
theorem append_wr {ops : Array Oper} {rest : List Oper} {o : Oper} {a : Act} {Q : Exit → Act → World → Prop} {W : World} (hgd : o.guard = none) (s x : Operand)
    (ho : o.op = .call { callee := .builtin .append, args := #[s, x], argTypes := #[29, 29] })
    (base : Nat) (v : Value) (n : Nat) (xs : List Value) (p : Nat × ByteArray) (hs : a.eval s = v) (hown : W.ownsRow base 59 2 v n xs) (N : Nat) (hN : N = W.heap.size) (hx : a.eval x = .slice (some ⟨N, 0, none⟩) 1 1)
    (hn : n ≤ 1000000) (hbase : base ≤ W.heap.size)
    (h : ∀ v' w', w'.ownsRow base 59 2 v' (n + 1) (xs ++ wcell p) → W.grownBy w' v.ownBlock → wpList Try.prog ops Q rest (a.put o.dst v') w') :
    wpList Try.prog ops Q (o :: rest) a (W.alloc (.cells #[.int .i64 (p.1 : Int), .string p.2] 59)) := by
  subst hN
  obtain ⟨i0, hi, hz0, hz1, hz2⟩ := info_parts wr_row
  exact append_new hgd s x 29 59 59 ho base i0 _ 2 24 Try.underlying29 hi hz0 hz1 hz2 rfl (by decide) (by decide) v n xs hs hown hx #[.int .i64 (p.1 : Int), .string p.2] rfl (by intro u hu; simp at hu; rcases hu with rfl | rfl <;> rfl) (by omega) hbase (fun v' w' a b _ => h v' w' a b)
/-- The document's disk in memory, as a value. -/
structure RD (w : World) (P : Nat → Prop) (v : Value) (su : List ByteArray) (l : List (Nat × ByteArray)) : Prop where
  ex : ∃ a b, v = .agg #[a, b] ∧ Sl w P 1 a su.length (strs su) ∧ Sl w P 2 b l.length (l.flatMap wcell)
  lt : ∀ b, P b → b < w.heap.size
section
variable {w w' : World} {P P' : Nat → Prop} {v : Value} {su : List ByteArray} {l : List (Nat × ByteArray)}
theorem RD.keep (h : RD w P v su l) (hk : ∀ b, P b → w'.heap[b]? = w.heap[b]?) (hs : w.heap.size ≤ w'.heap.size) : RD w' P v su l := by
  obtain ⟨a, b, e, h1, h2⟩ := h.ex
  exact ⟨⟨a, b, e, h1.keep hk, h2.keep hk⟩, fun b hb => Nat.lt_of_lt_of_le (h.lt b hb) hs⟩
theorem RD.below (h : RD w P v su l) (hb : Below w.heap.size w w') : RD w' P v su l := h.keep (fun b hp => hb.block b (h.lt b hp)) hb.size
end
end Go.Proofs.Ytebcodbpgleoiaa
