/- Words for memory: slices that read as lists, rows of the call's own, appends, variables. Conditions: none. -/
import Derived.Test.YtbjjgjifaomdlaaProg
import Derived.WalkKit
import Derived.WalkLawsBesides
import Derived.WalkSpells
import Derived.RegionTactic
import Derived.Below
import Derived.Laws.OwnMore
import Derived.Deep.AppendLies
import Derived.Deep.Draws
import Derived.OwnWalk
import Derived.Lib.OthersKept
import Derived.Maps.AppendAt
import Derived.BigQuiet
import Derived.Deep.QuietTactic
import Derived.LoopTactic
import Derived.Lib.LaidTab
import Derived.Lib.Hide
import Derived.Laws.IdiomStrings
import Derived.Laws.BitsAllLaws
import Derived.Laws.MakeOwn
set_option linter.unusedVariables false
set_option linter.unusedSimpArgs false
namespace Go.Proofs.Ytbjjgjifaomdlaa
open Go Go.RowKit
/-- It returns v, and what was there is as it was. -/
def Gives (v : Value) (w : World) (e : Ending) (w' : World) : Prop := e = .returned v ∧ Below w.heap.size w w'
theorem block_of_add (a : Addr) (n : Nat) : (a.add n).block = a.block := by unfold Addr.add; split <;> rfl
theorem add_of_add (a : Addr) (i j : Nat) : (a.add i).add j = a.add (i + j) := by
  unfold Addr.add
  by_cases hi : i = 0 <;> by_cases hj : j = 0 <;> simp [hi, hj, Nat.add_assoc]
theorem add_flat (b i j : Nat) : (⟨b, i, none⟩ : Addr).add j = ⟨b, i + j, none⟩ := by
  unfold Addr.add
  split
  · simp_all
  · rfl

/-- A slice's elements, in blocks that are allowed. -/
theorem grown_then {a b c : World} {row : Option Nat} (h : a.grownBy b row) (k : b.grownBy c row) : a.grownBy c row :=
  ⟨k.os.trans h.os, k.tape.trans h.tape, k.output.trans h.output, Nat.le_trans h.size k.size, fun i hi hne => (k.block i (Nat.lt_of_lt_of_le hi h.size) hne).trans (h.block i hi hne)⟩
theorem grown_below {a w : World} (h : Below a.heap.size a w) (row : Option Nat) : a.grownBy w row := ⟨h.os, h.tape, h.output, h.size, fun i hi _ => h.block i hi⟩
theorem own_shape {w : World} {base : Nat} {e : TypeId} {size : Nat} {v : Value} {n : Nat} {xs : List Value} (h : w.ownsRow base e size v n xs) : ∃ A c, v = .slice A n c ∧ n ≤ c ∧ c ≤ maxLen := by
  rcases h.2 with ⟨rfl, rfl⟩ | ⟨g, cap, cur, rfl, _, _, h1, h2, _⟩
  · exact ⟨_, _, rfl, Nat.le_refl _, by simp [maxLen]⟩
  · exact ⟨_, _, rfl, h1, h2⟩
theorem below_then {w w1 w2 : World} (h : Below w.heap.size w w1) (k : Below w1.heap.size w1 w2) : Below w.heap.size w w2 := h.trans (k.mono h.size)
/-- What stands below is as it was where the row is written. -/
theorem below_setCell {B : Nat} {a w : World} (h : Below B a w) {p : Addr} (hp : B ≤ p.block) (v : Value) : Below B a (w.setCell p v) := by
  refine ⟨h.os, h.tape, h.output, by simpa using h.size, fun b hb => ?_⟩
  rw [← h.block b hb]
  simp only [World.setCell, Array.getElem?_modify]
  rw [if_neg (by omega)]
theorem below_drewN {B : Nat} {a w : World} (h : Below B a w) (n : Nat) : Below B a (w.drewN n) := ⟨h.os, h.tape, h.output, h.size, h.block⟩

theorem news_cells (W : World) (cs : Array Value) (E : TypeId) : ∀ j u, cs.toList[j]? = some u → (W.alloc (.cells cs E)).cell? ((⟨W.heap.size, 0, none⟩ : Addr).add j) = some u := by
  intro j u hj
  rw [add_flat, Nat.zero_add]
  have hb := heap_alloc_new W (.cells cs E)
  simp only [World.cell?, hb]
  simpa using hj
theorem append_new {P : Program} {ops : Array Oper} {rest : List Oper} {o : Oper} {a : Act} {Q : Exit → Act → World → Prop} {W : World} (hgd : o.guard = none) (s x : Operand) (t E E' : TypeId)
    (ho : o.op = .call { callee := .builtin .append, args := #[s, x], argTypes := #[t, t] })
    (base : Nat) (i : TypeInfo) (z : Value) (size bytes : Nat) (ht : P.underlying t = some (.slice E)) (hi : P.info? E = some i) (hz : i.zero = some z)
    (hsize : i.size = size) (hby : i.bytes = bytes) (hzs : z.cells.size = size) (hsz : 0 < size) (hb100 : bytes ≤ 100)
    (v : Value) (n : Nat) (xs : List Value) (hs : a.eval s = v) (hown : W.ownsRow base E size v n xs) (hx : a.eval x = .slice (some ⟨W.heap.size, 0, none⟩) 1 1)
    (cs : Array Value) (hcs : cs.size = size) (h1 : ∀ u ∈ cs.toList, u.oneCell' = true) (hn : n ≤ 1000000000) (hbase : base ≤ W.heap.size)
    (h : ∀ v' w', w'.ownsRow base E size v' (n + 1) (xs ++ cs.toList) → W.grownBy w' v.ownBlock → (v'.ownBlock = v.ownBlock ∨ ∀ k, v'.ownBlock = some k → W.heap.size ≤ k) → wpList P ops Q rest (a.put o.dst v') w') :
    wpList P ops Q (o :: rest) a (W.alloc (.cells cs E')) := by
  have hmul : (n + 1) * bytes ≤ 140737488355328 := by
    have := Nat.mul_le_mul (show n + 1 ≤ 1000000001 by omega) hb100
    omega
  obtain ⟨v', w', hrun, h2, h3, _, h5⟩ := run_append_own_at (P := P) (W.alloc (.cells cs E')) base t o.type E i z size bytes ht hi hz hsize hby hzs hsz v n xs (hown.alloc _) ⟨W.heap.size, 0, none⟩ 1 1 cs.toList (by simp [hcs]) (news_cells W cs E') h1 (by unfold maxLen; omega) hmul (by simp; omega)
  refine wpList_plain hgd fun _ hK => ?_
  unfold Oper.wp execOp
  simp only [ho, resolve, invoke, builtin, Sem.run_bind, Sem.run_pure, Result.andThen_ok, List.map_toArray, List.map_cons, List.map_nil, hs, hx, hrun]
  refine hK _ _ (h v' w' h2 (grown_then (World.grownBy_alloc W _ _) h3) ?_)
  rcases h5 with h5 | h5
  · exact .inl h5
  · refine .inr fun k hk => ?_
    rw [h5] at hk
    simp at hk
    omega
def Reads (w : World) (B size : Nat) (A : Option Addr) (n : Nat) (xs : List Value) : Prop :=
  xs.length = n * size ∧ (0 < n → ∃ ad, A = some ad ∧ ad.block < B ∧ ∀ j u, xs[j]? = some u → w.cell? (ad.add j) = some u)

section
variable {w w' : World} {B B' size n : Nat} {A : Option Addr} {xs : List Value}
theorem Reads.none_ : Reads w B size A 0 [] := ⟨by simp, fun h => absurd h (by omega)⟩
theorem Reads.at_ {k : Nat} (h : Reads w B 1 A n xs) (hk : k < n) : ∃ ad u, A = some ad ∧ ad.block < B ∧ xs[k]? = some u ∧ w.cell? (ad.add k) = some u := by
  obtain ⟨ad, e, hb, hc⟩ := h.2 (by omega)
  have hl : k < xs.length := by have := h.1; omega
  exact ⟨ad, xs[k], e, hb, List.getElem?_eq_getElem hl, hc k _ (List.getElem?_eq_getElem hl)⟩
theorem Reads.keep (h : Reads w B size A n xs) (hk : ∀ p : Addr, p.block < B → w'.cell? p = w.cell? p) : Reads w' B size A n xs :=
  ⟨h.1, fun hn => by
    obtain ⟨ad, e, hb, hc⟩ := h.2 hn
    exact ⟨ad, e, hb, fun j u hu => (hk _ (by rw [block_of_add]; exact hb)).trans (hc j u hu)⟩⟩
theorem Reads.more (h : Reads w B size A n xs) (hB : B ≤ B') : Reads w B' size A n xs :=
  ⟨h.1, fun hn => by
    obtain ⟨ad, e, hb, hc⟩ := h.2 hn
    exact ⟨ad, e, by omega, hc⟩⟩
theorem Reads.below (h : Reads w B size A n xs) (hb : Below B w w') : Reads w' B size A n xs := h.keep fun _ hp => hb.cell hp
theorem Reads.drew (h : Reads w B size A n xs) : Reads w.drew B size A n xs := h
theorem Reads.drewN (h : Reads w B size A n xs) (k : Nat) : Reads (w.drewN k) B size A n xs := h
theorem Reads.alloc (h : Reads w B size A n xs) (hB : B ≤ w.heap.size) (o : Obj) : Reads (w.alloc o) B size A n xs := h.keep fun p hp => World.cell?_alloc_lt w o p (by omega)
theorem Reads.setCell (h : Reads w B size A n xs) {p : Addr} (hB : B ≤ p.block) (u : Value) : Reads (w.setCell p u) B size A n xs :=
  h.keep fun q hq => World.cell?_setCell_other w p q u (fun e => by subst e; omega)
theorem Reads.grown (h : Reads w B size A n xs) {row : Option Nat} (hg : w.grownBy w' row) (hB : B ≤ w.heap.size) (hr : ∀ g, row = some g → B ≤ g) : Reads w' B size A n xs :=
  h.keep fun p hp => World.cell?_of_block (hg.block p.block (by omega) (fun e => by have := hr _ e.symm; omega))
theorem Reads.cut (h : Reads w B size A n xs) {k cap : Nat} (hk : k ≤ n) (hc : n ≤ cap) :
    Reads w B size (if cap = k then A else A.map (·.add (k * size))) (n - k) (xs.drop (k * size)) := by
  refine ⟨by rw [List.length_drop, h.1, Nat.sub_mul], fun hn => ?_⟩
  obtain ⟨ad, rfl, hb, hcell⟩ := h.2 (by omega)
  rw [if_neg (by omega)]
  refine ⟨ad.add (k * size), rfl, by rw [block_of_add]; exact hb, fun j u hu => ?_⟩
  rw [add_of_add]
  exact hcell _ u (by rw [← hu, List.getElem?_drop])
theorem Reads.of_own {base : Nat} {e : TypeId} {c : Nat} (h : w.ownsRow base e size (.slice A n c) n xs) : Reads w w.heap.size size A n xs := by
  refine ⟨h.1, fun hn => ?_⟩
  obtain ⟨g, cap, hv, _, hlt⟩ := h.form hn
  have hA : A = some ⟨g, 0, none⟩ := by injection hv
  subst hA
  exact ⟨_, rfl, hlt, h.cells (g := g) rfl⟩
end



/-- Whole numbers as cells. -/
def ints (l : List Int) : List Value := l.map (Value.int .i64)
theorem ints_len (l : List Int) : (ints l).length = l.length := by simp [ints]
theorem ints_one (l : List Int) : ∀ u ∈ ints l, u.oneCell' = true := by
  intro u hu
  obtain ⟨x, _, rfl⟩ := List.mem_map.1 hu
  rfl
theorem ints_snoc (l : List Int) (x : Int) : ints l ++ [.int .i64 x] = ints (l ++ [x]) := by simp [ints]
theorem Reads.int_at {w : World} {B n k : Nat} {A : Option Addr} {l : List Int} (h : Reads w B 1 A n (ints l)) (hk : k < n) :
    ∃ ad, A = some ad ∧ ad.block < B ∧ w.cell? (ad.add k) = some (.int .i64 (l.getD k 0)) := by
  obtain ⟨ad, u, e, hb, hx, hc⟩ := h.at_ hk
  refine ⟨ad, e, hb, ?_⟩
  rw [hc]
  unfold ints at hx
  rw [List.getElem?_map] at hx
  obtain ⟨z, hz, rfl⟩ := Option.map_eq_some_iff.1 hx
  rw [List.getD_eq_getElem?_getD, hz]
  rfl
theorem Reads.len {w : World} {B n : Nat} {A : Option Addr} {l : List Int} (h : Reads w B 1 A n (ints l)) : n = l.length := by
  have := h.1
  rw [ints_len] at this
  omega
theorem ret_bool {b c : Bool} (h : b = c) : (Ending.returned (.bool b)) = .returned (.bool c) := by rw [h]
theorem keep_none {w w' : World} {base : Nat} {e : TypeId} {size : Nat} {v : Value} {n : Nat} {xs : List Value} (h : w.ownsRow base e size v n xs) (hb : Below w.heap.size w w') : w'.ownsRow base e size v n xs :=
  h.kept (grown_below hb none) (by
    by_cases h : v.ownBlock = none
    · exact .inl h
    · exact .inr h)
/-- A variable of its own. -/
def Box (w : World) (c : Nat) (T : TypeId) (v : Value) : Prop := w.heap[c]? = some (.cells #[v] T (0, 0))
section
variable {w w' : World} {c : Nat} {T : TypeId} {v : Value}
theorem Box.lt (h : Box w c T v) : c < w.heap.size := (Array.getElem?_eq_some_iff.1 h).1
theorem Box.cell (h : Box w c T v) : w.cell? ⟨c, 0, none⟩ = some v := by
  unfold Box at h
  simp only [World.cell?, h]
  rfl
theorem Box.frozen (h : Box w c T v) : w.frozen? ⟨c, 0, none⟩ = false := by
  unfold Box at h
  simp only [World.frozen?, h]
  simp
theorem Box.set (h : Box w c T v) (u : Value) : Box (w.setCell ⟨c, 0, none⟩ u) c T u := by
  unfold Box at *
  simp only [World.setCell, Array.getElem?_modify, h]
  simp
theorem Box.below {B : Nat} (h : Box w c T v) (hb : Below B w w') (hB : c < B) : Box w' c T v := (hb.block c hB).trans h
theorem Box.grown {row : Option Nat} (h : Box w c T v) (hg : w.grownBy w' row) (hne : some c ≠ row) : Box w' c T v := (hg.block c h.lt hne).trans h
theorem Box.new (w : World) (T : TypeId) (v : Value) : Box (w.alloc (.cells #[v] T)) w.heap.size T v := by
  show (w.heap.push _)[w.heap.size]? = _
  simp
end
theorem below_setCell_at {B : Nat} {a w : World} (h : Below B a w) {p : Addr} (hp : B ≤ p.block) (v : Value) : Below B a (w.setCell p v) := below_setCell h hp v
theorem own_setCell {w : World} {base : Nat} {e : TypeId} {size : Nat} {v : Value} {n : Nat} {xs : List Value} (h : w.ownsRow base e size v n xs) {c : Nat} (ha : c < base) (u : Value) : (w.setCell ⟨c, 0, none⟩ u).ownsRow base e size v n xs :=
  ownsRow_setCell_below h (a := ⟨c, 0, none⟩) ha u
theorem int_row : (Try.prog.info? 3).map (fun i => (i.zero, i.size, i.bytes)) = some (some (.int .i64 0), 1, 8) := by kernel_rfl
theorem append_int {ops : Array Oper} {rest : List Oper} {o : Oper} {a : Act} {Q : Exit → Act → World → Prop} {W : World} (hgd : o.guard = none) (s x : Operand)
    (ho : o.op = .call { callee := .builtin .append, args := #[s, x], argTypes := #[35, 35] })
    (base : Nat) (v : Value) (n : Nat) (xs : List Value) (z : Int) (hs : a.eval s = v) (hown : W.ownsRow base 3 1 v n xs) (N : Nat) (hN : N = W.heap.size) (hx : a.eval x = .slice (some ⟨N, 0, none⟩) 1 1)
    (hn : n ≤ 1000000) (hbase : base ≤ W.heap.size)
    (h : ∀ v' w', w'.ownsRow base 3 1 v' (n + 1) (xs ++ [.int .i64 z]) → W.grownBy w' v.ownBlock → wpList Try.prog ops Q rest (a.put o.dst v') w') :
    wpList Try.prog ops Q (o :: rest) a (W.alloc (.cells #[.int .i64 z] 3)) := by
  subst hN
  obtain ⟨i0, hi, hz0, hz1, hz2⟩ := info_parts int_row
  exact append_new hgd s x 35 3 3 ho base i0 (.int .i64 0) 1 8 Try.underlying35 hi hz0 hz1 hz2 rfl (by decide) (by decide) v n xs hs hown hx #[.int .i64 z] rfl (by intro u hu; simp at hu; subst hu; rfl) (by omega) hbase (fun v' w' a b _ => h v' w' a b)

/-- A row that lies whole in a block. -/
def Row (w : World) (g : Nat) (T : TypeId) (xs : List Value) : Prop := w.heap[g]? = some (.cells xs.toArray T (0, 0))
section
variable {w w' : World} {g : Nat} {T : TypeId} {xs : List Value}
theorem Row.lt (h : Row w g T xs) : g < w.heap.size := (Array.getElem?_eq_some_iff.1 h).1
theorem Row.cell (h : Row w g T xs) {j : Nat} {u : Value} (hj : xs[j]? = some u) : w.cell? ⟨g, j, none⟩ = some u := by
  unfold Row at h
  simp only [World.cell?, h]
  simpa using hj
theorem Row.frozen (h : Row w g T xs) (j : Nat) : w.frozen? ⟨g, j, none⟩ = false := by
  unfold Row at h
  simp only [World.frozen?, h]
  simp
theorem Row.set (h : Row w g T xs) (j : Nat) (u : Value) : Row (w.setCell ⟨g, j, none⟩ u) g T (xs.set j u) := by
  unfold Row at *
  simp only [World.setCell, Array.getElem?_modify, h]
  simp
theorem Row.new (w : World) (T : TypeId) (xs : List Value) : Row (w.alloc (.cells xs.toArray T)) w.heap.size T xs := by
  show (w.heap.push _)[w.heap.size]? = _
  simp
theorem Row.keep (h : Row w g T xs) (e : w'.heap[g]? = w.heap[g]?) : Row w' g T xs := e.trans h
end
theorem Box.keep {w w' : World} {c : Nat} {T : TypeId} {v : Value} (h : Box w c T v) (e : w'.heap[c]? = w.heap[c]?) : Box w' c T v := e.trans h
theorem heap_set_ne (w : World) (a : Addr) (u : Value) {b : Nat} (h : b ≠ a.block) : (w.setCell a u).heap[b]? = w.heap[b]? := Below.heap_setCell w a u b h
theorem heap_alloc_lt (w : World) (o : Obj) {b : Nat} (h : b < w.heap.size) : (w.alloc o).heap[b]? = w.heap[b]? := Below.heap_alloc w o b h
theorem own_keep {w w' : World} {base : Nat} {e : TypeId} {size : Nat} {v : Value} {n : Nat} {xs : List Value} (h : w.ownsRow base e size v n xs) (k : ∀ g, v.ownBlock = some g → w'.heap[g]? = w.heap[g]?) : w'.ownsRow base e size v n xs := by
  refine ⟨h.1, h.2.imp id fun ⟨g, cap, cur, hv, hb, hg, r⟩ => ⟨g, cap, cur, hv, hb, ?_, r⟩⟩
  rw [← hg]
  exact k g (by rw [hv]; rfl)
/-- From w to w' only blocks of F, and new ones, have turned; what is F' is F, or new. -/
structure Turn (F : Nat → Prop) (w : World) (F' : Nat → Prop) (w' : World) : Prop where
  os : w'.os = w.os
  tape : w'.tape = w.tape
  output : w'.output = w.output
  size : w.heap.size ≤ w'.heap.size
  block : ∀ b, b < w.heap.size → ¬ F b → w'.heap[b]? = w.heap[b]?
  foot : ∀ b, F' b → F b ∨ w.heap.size ≤ b
section
variable {w w1 w2 : World} {F F1 F2 : Nat → Prop}
theorem Turn.refl (F : Nat → Prop) (w : World) : Turn F w F w := ⟨rfl, rfl, rfl, Nat.le_refl _, fun _ _ _ => rfl, fun _ h => .inl h⟩
theorem Turn.trans (h : Turn F w F1 w1) (k : Turn F1 w1 F2 w2) : Turn F w F2 w2 :=
  ⟨k.os.trans h.os, k.tape.trans h.tape, k.output.trans h.output, Nat.le_trans h.size k.size,
   fun b hb hf => (k.block b (Nat.lt_of_lt_of_le hb h.size) (fun hc => (h.foot b hc).elim hf (by omega))).trans (h.block b hb hf),
   fun b hb => (k.foot b hb).elim (fun hc => h.foot b hc) (fun hc => .inr (Nat.le_trans h.size hc))⟩
theorem Turn.set (F : Nat → Prop) (w : World) {a : Addr} (ha : F a.block) (u : Value) : Turn F w F (w.setCell a u) :=
  ⟨rfl, rfl, rfl, by simp, fun b _ hf => heap_set_ne w a u (fun e => hf (e ▸ ha)), fun _ h => .inl h⟩
theorem Turn.alloc (F : Nat → Prop) (w : World) (o : Obj) : Turn F w F (w.alloc o) := ⟨rfl, rfl, rfl, by simp, fun b hb _ => heap_alloc_lt w o hb, fun _ h => .inl h⟩
theorem Turn.below (F : Nat → Prop) (h : Below w.heap.size w w1) : Turn F w F w1 := ⟨h.os, h.tape, h.output, h.size, fun b hb _ => h.block b hb, fun _ h => .inl h⟩
theorem Turn.drewN (F : Nat → Prop) (w : World) (q : Nat) : Turn F w F (w.drewN q) := ⟨rfl, rfl, rfl, Nat.le_refl _, fun _ _ _ => rfl, fun _ h => .inl h⟩
theorem Turn.down {B : Nat} (h : Turn F w F1 w1) (hF : ∀ b, F b → B ≤ b) (hB : B ≤ w.heap.size) : Below B w w1 :=
  ⟨h.os, h.tape, h.output, h.size, fun b hb => h.block b (by omega) (fun hf => by have := hF b hf; omega)⟩
theorem Turn.far {B : Nat} (h : Turn F w F1 w1) (hF : ∀ b, F b → B ≤ b) (hB : B ≤ w.heap.size) : ∀ b, F1 b → B ≤ b := fun b hb => (h.foot b hb).elim (hF b) (Nat.le_trans hB)
end
/-- Several rows of the call's own, each in a block of its own. -/
def Fam (w : World) (base : Nat) (e : TypeId) (size : Nat) (L : List (Value × Nat × List Value)) : Prop :=
  (∀ p ∈ L, w.ownsRow base e size p.1 p.2.1 p.2.2) ∧ L.Pairwise (fun p q => p.1.ownBlock = none ∨ p.1.ownBlock ≠ q.1.ownBlock)
section
variable {w w' : World} {base : Nat} {e : TypeId} {size : Nat}
theorem Fam.nil : Fam w base e size [] := ⟨fun p hp => by simp at hp, List.Pairwise.nil⟩
theorem Fam.none_cons {L : List (Value × Nat × List Value)} (h : Fam w base e size L) : Fam w base e size ((.slice none 0 0, 0, []) :: L) := by
  refine ⟨fun p hp => ?_, List.pairwise_cons.2 ⟨fun q hq => .inl rfl, h.2⟩⟩
  rcases List.mem_cons.1 hp with rfl | hp
  · exact World.ownsRow_nil ..
  · exact h.1 p hp
theorem Fam.snoc_none {L : List (Value × Nat × List Value)} (h : Fam w base e size L) : Fam w base e size (L ++ [(.slice none 0 0, 0, [])]) := by
  refine ⟨fun p hp => ?_, List.pairwise_append.2 ⟨h.2, List.pairwise_singleton _ _, fun p hp q hq => ?_⟩⟩
  · rcases List.mem_append.1 hp with hp | hp
    · exact h.1 p hp
    · simp only [List.mem_singleton] at hp
      subst hp
      exact World.ownsRow_nil ..
  · simp only [List.mem_singleton] at hq
    subst hq
    by_cases hn : p.1.ownBlock = none
    · exact .inl hn
    · exact .inr (by simpa [Value.ownBlock] using hn)
theorem Fam.own {L : List (Value × Nat × List Value)} (h : Fam w base e size L) {v : Value} {n : Nat} {xs : List Value} (hm : (v, n, xs) ∈ L) : w.ownsRow base e size v n xs := h.1 _ hm
theorem Fam.below {L : List (Value × Nat × List Value)} (h : Fam w base e size L) (hb : Below w.heap.size w w') : Fam w' base e size L := ⟨fun p hp => keep_none (h.1 p hp) hb, h.2⟩
theorem Fam.alloc {L : List (Value × Nat × List Value)} (h : Fam w base e size L) (o : Obj) : Fam (w.alloc o) base e size L := h.below ((Below.refl _ w).alloc (Nat.le_refl _) _)
theorem Fam.drewN {L : List (Value × Nat × List Value)} (h : Fam w base e size L) (q : Nat) : Fam (w.drewN q) base e size L := h.below (below_drewN (Below.refl _ w) q)
theorem Fam.step {L1 L2 : List (Value × Nat × List Value)} {v v' : Value} {n n' : Nat} {xs xs' : List Value} (h : Fam w base e size (L1 ++ (v, n, xs) :: L2)) (hown : w'.ownsRow base e size v' n' xs') (hg : w.grownBy w' v.ownBlock)
    (hv : v'.ownBlock = v.ownBlock ∨ ∀ k, v'.ownBlock = some k → w.heap.size ≤ k) : Fam w' base e size (L1 ++ (v', n', xs') :: L2) := by
  obtain ⟨h1, h2⟩ := h
  rw [List.pairwise_append, List.pairwise_cons] at h2
  obtain ⟨p1, ⟨p2, p3⟩, p4⟩ := h2
  have far : ∀ p : Value × Nat × List Value, w.ownsRow base e size p.1 p.2.1 p.2.2 → (p.1.ownBlock = none ∨ p.1.ownBlock ≠ v.ownBlock) → p.1.ownBlock = none ∨ p.1.ownBlock ≠ v'.ownBlock := by
    intro p hp hpv
    rcases hpv with hpv | hpv
    · exact .inl hpv
    · rcases hv with hv | hv
      · rw [hv]
        exact .inr hpv
      · rcases hq : p.1.ownBlock with _ | g
        · exact .inl rfl
        · refine .inr fun he => ?_
          have := hv g he.symm
          have h3 := (hp.lt g hq).2
          omega
  have sym : ∀ a b : Option Nat, (a = none ∨ a ≠ b) → (b = none ∨ b ≠ a) := by
    intro a b h
    rcases b with _ | b
    · exact .inl rfl
    · rcases h with rfl | h
      · exact .inr (by simp)
      · exact .inr (Ne.symm h)
  refine ⟨fun p hp => ?_, ?_⟩
  · rcases List.mem_append.1 hp with hp | hp
    · exact (h1 p (List.mem_append.2 (.inl hp))).kept hg (p4 p hp _ (List.mem_cons_self ..))
    · rcases List.mem_cons.1 hp with rfl | hp
      · exact hown
      · exact (h1 p (List.mem_append.2 (.inr (List.mem_cons_of_mem _ hp)))).kept hg (sym _ _ (p2 p hp))
  · rw [List.pairwise_append, List.pairwise_cons]
    refine ⟨p1, ⟨fun q hq => sym _ _ (far q (h1 q (List.mem_append.2 (.inr (List.mem_cons_of_mem _ hq)))) (sym _ _ (p2 q hq))), p3⟩, fun p hp q hq => ?_⟩
    rcases List.mem_cons.1 hq with rfl | hq
    · exact far p (h1 p (List.mem_append.2 (.inl hp))) (p4 p hp _ (List.mem_cons_self ..))
    · exact p4 p hp q (List.mem_cons_of_mem _ hq)
theorem below_own {v : Value} {n : Nat} {xs : List Value} (h : w.ownsRow base e size v n xs) (hg : w.grownBy w' v.ownBlock) (hbase : base ≤ w.heap.size) : Below base w w' :=
  ⟨hg.os, hg.tape, hg.output, by have := hg.size; omega, fun b hb => hg.block b (by omega) (fun he => by have := (h.lt b he.symm).1; omega)⟩
end
theorem append_fam {ops : Array Oper} {rest : List Oper} {o : Oper} {a : Act} {Q : Exit → Act → World → Prop} {W : World} (hgd : o.guard = none) (s x : Operand)
    (ho : o.op = .call { callee := .builtin .append, args := #[s, x], argTypes := #[35, 35] })
    (base : Nat) (L1 L2 : List (Value × Nat × List Value)) (v : Value) (n : Nat) (xs : List Int) (z : Int) (hs : a.eval s = v) (hF : Fam W base 3 1 (L1 ++ (v, n, ints xs) :: L2)) (N : Nat) (hN : N = W.heap.size) (hx : a.eval x = .slice (some ⟨N, 0, none⟩) 1 1)
    (hn : n ≤ 1000000) (hbase : base ≤ W.heap.size)
    (h : ∀ v' w', Fam w' base 3 1 (L1 ++ (v', n + 1, ints (xs ++ [z])) :: L2) → Below base W w' → W.heap.size ≤ w'.heap.size → wpList Try.prog ops Q rest (a.put o.dst v') w') :
    wpList Try.prog ops Q (o :: rest) a (W.alloc (.cells #[.int .i64 z] 3)) := by
  subst hN
  obtain ⟨i0, hi, hz0, hz1, hz2⟩ := info_parts int_row
  have hown := hF.own (v := v) (n := n) (xs := ints xs) (by simp)
  refine append_new hgd s x 35 3 3 ho base i0 (.int .i64 0) 1 8 Try.underlying35 hi hz0 hz1 hz2 rfl (by decide) (by decide) v n (ints xs) hs hown hx #[.int .i64 z] rfl (by intro u hu; simp at hu; subst hu; rfl) (by omega) hbase (fun v' w' h1 h2 h3 => ?_)
  have h1' : w'.ownsRow base 3 1 v' (n + 1) (ints (xs ++ [z])) := by rw [← ints_snoc]; exact h1
  exact h v' w' (hF.step h1' h2 h3) (below_own hown h2 hbase) h2.size
end Go.Proofs.Ytbjjgjifaomdlaa
