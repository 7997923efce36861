/- Words for memory: slices that read as lists, rows of the call's own, appends, variables. Conditions: none. -/
import Derived.Test.YtkehojgiappiiaaGreatDoorKit
set_option linter.unusedVariables false
set_option linter.unusedSimpArgs false
namespace Go.Proofs.YtkehojgiappiiaaGreatDoor
open Go Go.RowKit
def Reads (w : World) (B size : Nat) (A : Option Addr) (n : Nat) (xs : List Value) : Prop :=
  xs.length = n * size ∧ (0 < n → ∃ ad, A = some ad ∧ ad.block < B ∧ ∀ j u, xs[j]? = some u → w.cell? (ad.add j) = some u)

section
variable {w w' : World} {B B' size n : Nat} {A : Option Addr} {xs : List Value}
theorem Reads.none_ : Reads w B size A 0 [] := ⟨by simp, fun h => absurd h (by omega)⟩
theorem Reads.at_ {k : Nat} (h : Reads w B 1 A n xs) (hk : k < n) : ∃ ad u, A = some ad ∧ ad.block < B ∧ xs[k]? = some u ∧ w.cell? (ad.add k) = some u := by
  obtain ⟨ad, e, hb, hc⟩ := h.2 (by omega)
  have hl : k < xs.length := by have := h.1; omega
  exact ⟨ad, xs[k], e, hb, List.getElem?_eq_getElem hl, hc k _ (List.getElem?_eq_getElem hl)⟩
theorem Reads.keep (h : Reads w B size A n xs) (hk : ∀ p : Addr, p.block < B → w'.cell? p = w.cell? p) : Reads w' B size A n xs :=
  ⟨h.1, fun hn => by
    obtain ⟨ad, e, hb, hc⟩ := h.2 hn
    exact ⟨ad, e, hb, fun j u hu => (hk _ (by rw [block_of_add]; exact hb)).trans (hc j u hu)⟩⟩
theorem Reads.more (h : Reads w B size A n xs) (hB : B ≤ B') : Reads w B' size A n xs :=
  ⟨h.1, fun hn => by
    obtain ⟨ad, e, hb, hc⟩ := h.2 hn
    exact ⟨ad, e, by omega, hc⟩⟩
theorem Reads.below (h : Reads w B size A n xs) (hb : Below B w w') : Reads w' B size A n xs := h.keep fun _ hp => hb.cell hp
theorem Reads.drew (h : Reads w B size A n xs) : Reads w.drew B size A n xs := h
theorem Reads.drewN (h : Reads w B size A n xs) (k : Nat) : Reads (w.drewN k) B size A n xs := h
theorem Reads.alloc (h : Reads w B size A n xs) (hB : B ≤ w.heap.size) (o : Obj) : Reads (w.alloc o) B size A n xs := h.keep fun p hp => World.cell?_alloc_lt w o p (by omega)
theorem Reads.setCell (h : Reads w B size A n xs) {p : Addr} (hB : B ≤ p.block) (u : Value) : Reads (w.setCell p u) B size A n xs :=
  h.keep fun q hq => World.cell?_setCell_other w p q u (fun e => by subst e; omega)
theorem Reads.grown (h : Reads w B size A n xs) {row : Option Nat} (hg : w.grownBy w' row) (hB : B ≤ w.heap.size) (hr : ∀ g, row = some g → B ≤ g) : Reads w' B size A n xs :=
  h.keep fun p hp => World.cell?_of_block (hg.block p.block (by omega) (fun e => by have := hr _ e.symm; omega))
theorem Reads.cut (h : Reads w B size A n xs) {k cap : Nat} (hk : k ≤ n) (hc : n ≤ cap) :
    Reads w B size (if cap = k then A else A.map (·.add (k * size))) (n - k) (xs.drop (k * size)) := by
  refine ⟨by rw [List.length_drop, h.1, Nat.sub_mul], fun hn => ?_⟩
  obtain ⟨ad, rfl, hb, hcell⟩ := h.2 (by omega)
  rw [if_neg (by omega)]
  refine ⟨ad.add (k * size), rfl, by rw [block_of_add]; exact hb, fun j u hu => ?_⟩
  rw [add_of_add]
  exact hcell _ u (by rw [← hu, List.getElem?_drop])
theorem Reads.of_own {base : Nat} {e : TypeId} {c : Nat} (h : w.ownsRow base e size (.slice A n c) n xs) : Reads w w.heap.size size A n xs := by
  refine ⟨h.1, fun hn => ?_⟩
  obtain ⟨g, cap, hv, _, hlt⟩ := h.form hn
  have hA : A = some ⟨g, 0, none⟩ := by injection hv
  subst hA
  exact ⟨_, rfl, hlt, h.cells (g := g) rfl⟩
end



theorem keep_none {w w' : World} {base : Nat} {e : TypeId} {size : Nat} {v : Value} {n : Nat} {xs : List Value} (h : w.ownsRow base e size v n xs) (hb : Below w.heap.size w w') : w'.ownsRow base e size v n xs :=
  h.kept (grown_below hb none) (by
    by_cases h : v.ownBlock = none
    · exact .inl h
    · exact .inr h)
/-- A variable of its own. -/
def Box (w : World) (c : Nat) (T : TypeId) (v : Value) : Prop := w.heap[c]? = some (.cells #[v] T (0, 0))
section
variable {w w' : World} {c : Nat} {T : TypeId} {v : Value}
theorem Box.lt (h : Box w c T v) : c < w.heap.size := (Array.getElem?_eq_some_iff.1 h).1
theorem Box.cell (h : Box w c T v) : w.cell? ⟨c, 0, none⟩ = some v := by
  unfold Box at h
  simp only [World.cell?, h]
  rfl
theorem Box.frozen (h : Box w c T v) : w.frozen? ⟨c, 0, none⟩ = false := by
  unfold Box at h
  simp only [World.frozen?, h]
  simp
theorem Box.set (h : Box w c T v) (u : Value) : Box (w.setCell ⟨c, 0, none⟩ u) c T u := by
  unfold Box at *
  simp only [World.setCell, Array.getElem?_modify, h]
  simp
theorem Box.below {B : Nat} (h : Box w c T v) (hb : Below B w w') (hB : c < B) : Box w' c T v := (hb.block c hB).trans h
theorem Box.grown {row : Option Nat} (h : Box w c T v) (hg : w.grownBy w' row) (hne : some c ≠ row) : Box w' c T v := (hg.block c h.lt hne).trans h
theorem Box.new (w : World) (T : TypeId) (v : Value) : Box (w.alloc (.cells #[v] T)) w.heap.size T v := by
  show (w.heap.push _)[w.heap.size]? = _
  simp
end
theorem below_setCell_at {B : Nat} {a w : World} (h : Below B a w) {p : Addr} (hp : B ≤ p.block) (v : Value) : Below B a (w.setCell p v) := below_setCell h hp v
theorem own_setCell {w : World} {base : Nat} {e : TypeId} {size : Nat} {v : Value} {n : Nat} {xs : List Value} (h : w.ownsRow base e size v n xs) {c : Nat} (ha : c < base) (u : Value) : (w.setCell ⟨c, 0, none⟩ u).ownsRow base e size v n xs :=
  ownsRow_setCell_below h (a := ⟨c, 0, none⟩) ha u

/-- A row that lies whole in a block. -/
def Row (w : World) (g : Nat) (T : TypeId) (xs : List Value) : Prop := w.heap[g]? = some (.cells xs.toArray T (0, 0))
section
variable {w w' : World} {g : Nat} {T : TypeId} {xs : List Value}
theorem Row.lt (h : Row w g T xs) : g < w.heap.size := (Array.getElem?_eq_some_iff.1 h).1
theorem Row.cell (h : Row w g T xs) {j : Nat} {u : Value} (hj : xs[j]? = some u) : w.cell? ⟨g, j, none⟩ = some u := by
  unfold Row at h
  simp only [World.cell?, h]
  simpa using hj
theorem Row.frozen (h : Row w g T xs) (j : Nat) : w.frozen? ⟨g, j, none⟩ = false := by
  unfold Row at h
  simp only [World.frozen?, h]
  simp
theorem Row.set (h : Row w g T xs) (j : Nat) (u : Value) : Row (w.setCell ⟨g, j, none⟩ u) g T (xs.set j u) := by
  unfold Row at *
  simp only [World.setCell, Array.getElem?_modify, h]
  simp
theorem Row.new (w : World) (T : TypeId) (xs : List Value) : Row (w.alloc (.cells xs.toArray T)) w.heap.size T xs := by
  show (w.heap.push _)[w.heap.size]? = _
  simp
theorem Row.keep (h : Row w g T xs) (e : w'.heap[g]? = w.heap[g]?) : Row w' g T xs := e.trans h
end
theorem Box.keep {w w' : World} {c : Nat} {T : TypeId} {v : Value} (h : Box w c T v) (e : w'.heap[c]? = w.heap[c]?) : Box w' c T v := e.trans h
theorem heap_set_ne (w : World) (a : Addr) (u : Value) {b : Nat} (h : b ≠ a.block) : (w.setCell a u).heap[b]? = w.heap[b]? := Below.heap_setCell w a u b h
theorem heap_alloc_lt (w : World) (o : Obj) {b : Nat} (h : b < w.heap.size) : (w.alloc o).heap[b]? = w.heap[b]? := Below.heap_alloc w o b h
theorem own_keep {w w' : World} {base : Nat} {e : TypeId} {size : Nat} {v : Value} {n : Nat} {xs : List Value} (h : w.ownsRow base e size v n xs) (k : ∀ g, v.ownBlock = some g → w'.heap[g]? = w.heap[g]?) : w'.ownsRow base e size v n xs := by
  refine ⟨h.1, h.2.imp id fun ⟨g, cap, cur, hv, hb, hg, r⟩ => ⟨g, cap, cur, hv, hb, ?_, r⟩⟩
  rw [← hg]
  exact k g (by rw [hv]; rfl)
/-- Texts as cells. -/
def strs (l : List ByteArray) : List Value := l.map Value.string
theorem strs_get {l : List ByteArray} {j : Nat} (h : j < l.length) : (strs l)[j]? = some (.string (l.getD j ⟨#[]⟩)) := by
  unfold strs
  rw [List.getElem?_map, List.getD_eq_getElem?_getD, List.getElem?_eq_getElem h]
  rfl
theorem strs_set (l : List ByteArray) (j : Nat) (s : ByteArray) : (strs l).set j (.string s) = strs (l.set j s) := by
  unfold strs
  rw [List.map_set]
theorem made_strs (n : Nat) : madeCells #[.string ⟨#[]⟩] n = (strs (List.replicate n ⟨#[]⟩)).toArray := by
  have h := toList_madeCells_one (.string ⟨#[]⟩) n
  unfold strs
  rw [List.map_replicate, ← h, Array.toArray_toList]

/-- A write that is not sure, as a function: the two variables that it holds lie one behind the other. -/
def clo (c : Nat) : Value := .func (.func 61) #[] #[.pointer (some ⟨c, 0, none⟩), .pointer (some ⟨c + 1, 0, none⟩)]
/-- A disk in memory: F is all its blocks; L has each loose write's variables, its block, its text. -/
structure DkW (w : World) (F : Nat → Prop) (d bn bs N : Nat) (v : Value) (nw su : List ByteArray) (L : List (Nat × Nat × ByteArray)) : Prop where
  box : w.heap[d]? = some (.cells #[.pointer (some ⟨d, 0, none⟩), .slice (some ⟨bn, 0, none⟩) N N, .slice (some ⟨bs, 0, none⟩) N N, v] 69 (0, 0))
  now : Row w bn 9 (strs nw)
  sure : Row w bs 9 (strs su)
  ln : nw.length = N
  ls : su.length = N
  own : w.ownsRow 0 71 1 v L.length (L.map fun p => clo p.1)
  boxes : ∀ p ∈ L, Box w p.1 3 (.int .i64 (p.2.1 : Int)) ∧ Box w (p.1 + 1) 9 (.string p.2.2) ∧ p.2.1 < N ∧ p.2.2.size ≤ 128
  e1 : d ≠ bn
  e2 : d ≠ bs
  e3 : bn ≠ bs
  ev : ∀ g, v.ownBlock = some g → g ≠ d ∧ g ≠ bn ∧ g ≠ bs ∧ ∀ p ∈ L, p.1 ≠ g ∧ p.1 + 1 ≠ g
  eb : ∀ p ∈ L, p.1 ≠ d ∧ p.1 ≠ bn ∧ p.1 ≠ bs ∧ p.1 + 1 ≠ d ∧ p.1 + 1 ≠ bn ∧ p.1 + 1 ≠ bs
  fd : F d
  fn : F bn
  fs : F bs
  fv : ∀ g, v.ownBlock = some g → F g
  fb : ∀ p ∈ L, F p.1 ∧ F (p.1 + 1)
  lt : ∀ b, F b → b < w.heap.size
section
variable {w w' : World} {F : Nat → Prop} {d bn bs N : Nat} {v : Value} {nw su : List ByteArray} {L : List (Nat × Nat × ByteArray)}
theorem DkW.keep (h : DkW w F d bn bs N v nw su L) (hk : ∀ b, F b → w'.heap[b]? = w.heap[b]?) (hs : w.heap.size ≤ w'.heap.size) : DkW w' F d bn bs N v nw su L :=
  { h with
    box := (hk d h.fd).trans h.box
    now := h.now.keep (hk bn h.fn)
    sure := h.sure.keep (hk bs h.fs)
    own := own_keep h.own fun g hg => hk g (h.fv g hg)
    boxes := fun p hp => ⟨(h.boxes p hp).1.keep (hk _ (h.fb p hp).1), (h.boxes p hp).2.1.keep (hk _ (h.fb p hp).2), (h.boxes p hp).2.2⟩
    lt := fun b hb => by have := h.lt b hb; omega }
theorem DkW.alloc (h : DkW w F d bn bs N v nw su L) (o : Obj) : DkW (w.alloc o) F d bn bs N v nw su L := h.keep (fun b hb => heap_alloc_lt w o (h.lt b hb)) (by simp)
theorem DkW.set (h : DkW w F d bn bs N v nw su L) {a : Addr} (ha : ¬ F a.block) (u : Value) : DkW (w.setCell a u) F d bn bs N v nw su L := h.keep (fun b hb => heap_set_ne w a u (fun e => ha (e ▸ hb))) (by simp)
theorem DkW.drewN (h : DkW w F d bn bs N v nw su L) (q : Nat) : DkW (w.drewN q) F d bn bs N v nw su L := h.keep (fun _ _ => rfl) (Nat.le_refl _)
theorem DkW.c0 (h : DkW w F d bn bs N v nw su L) : w.cell? ⟨d, 0, none⟩ = some (.pointer (some ⟨d, 0, none⟩)) := by simp [World.cell?, h.box]
theorem DkW.c1 (h : DkW w F d bn bs N v nw su L) : w.cell? ⟨d, 1, none⟩ = some (.slice (some ⟨bn, 0, none⟩) N N) := by simp [World.cell?, h.box]
theorem DkW.c2 (h : DkW w F d bn bs N v nw su L) : w.cell? ⟨d, 2, none⟩ = some (.slice (some ⟨bs, 0, none⟩) N N) := by simp [World.cell?, h.box]
theorem DkW.c3 (h : DkW w F d bn bs N v nw su L) : w.cell? ⟨d, 3, none⟩ = some v := by simp [World.cell?, h.box]
theorem DkW.z3 (h : DkW w F d bn bs N v nw su L) : w.frozen? ⟨d, 3, none⟩ = false := by simp [World.frozen?, h.box]
theorem DkW.setNow (h : DkW w F d bn bs N v nw su L) (k : Nat) (s : ByteArray) : DkW (w.setCell ⟨bn, k, none⟩ (.string s)) F d bn bs N v (nw.set k s) su L :=
  { h with
    box := (heap_set_ne w _ _ h.e1).trans h.box
    now := by have := h.now.set k (.string s); rw [strs_set] at this; exact this
    sure := h.sure.keep (heap_set_ne w _ _ h.e3.symm)
    ln := by rw [List.length_set]; exact h.ln
    own := own_keep h.own fun g hg => heap_set_ne w _ _ (h.ev g hg).2.1
    boxes := fun p hp => ⟨(h.boxes p hp).1.keep (heap_set_ne w _ _ (h.eb p hp).2.1), (h.boxes p hp).2.1.keep (heap_set_ne w _ _ (h.eb p hp).2.2.2.2.1), (h.boxes p hp).2.2⟩
    lt := fun b hb => by have := h.lt b hb; simpa using this }
theorem DkW.setSure (h : DkW w F d bn bs N v nw su L) (k : Nat) (s : ByteArray) : DkW (w.setCell ⟨bs, k, none⟩ (.string s)) F d bn bs N v nw (su.set k s) L :=
  { h with
    box := (heap_set_ne w _ _ h.e2).trans h.box
    now := h.now.keep (heap_set_ne w _ _ h.e3)
    sure := by have := h.sure.set k (.string s); rw [strs_set] at this; exact this
    ls := by rw [List.length_set]; exact h.ls
    own := own_keep h.own fun g hg => heap_set_ne w _ _ (h.ev g hg).2.2.1
    boxes := fun p hp => ⟨(h.boxes p hp).1.keep (heap_set_ne w _ _ (h.eb p hp).2.2.1), (h.boxes p hp).2.1.keep (heap_set_ne w _ _ (h.eb p hp).2.2.2.2.2), (h.boxes p hp).2.2⟩
    lt := fun b hb => by have := h.lt b hb; simpa using this }
theorem DkW.clear (h : DkW w F d bn bs N v nw su L) : DkW (w.setCell ⟨d, 3, none⟩ (.slice none 0 0)) F d bn bs N (.slice none 0 0) nw su [] :=
  { box := by simp [World.setCell, Array.getElem?_modify, h.box]
    now := h.now.keep (heap_set_ne w _ _ h.e1.symm)
    sure := h.sure.keep (heap_set_ne w _ _ h.e2.symm)
    ln := h.ln
    ls := h.ls
    own := World.ownsRow_nil ..
    boxes := fun p hp => by simp at hp
    e1 := h.e1
    e2 := h.e2
    e3 := h.e3
    ev := fun g hg => by simp [Value.ownBlock] at hg
    eb := fun p hp => by simp at hp
    fd := h.fd
    fn := h.fn
    fs := h.fs
    fv := fun g hg => by simp [Value.ownBlock] at hg
    fb := fun p hp => by simp at hp
    lt := fun b hb => by have := h.lt b hb; simpa using this }
end
/-- From w to w' only blocks of F, and new ones, have turned; what is F' is F, or new. -/
structure Turn (F : Nat → Prop) (w : World) (F' : Nat → Prop) (w' : World) : Prop where
  os : w'.os = w.os
  tape : w'.tape = w.tape
  output : w'.output = w.output
  size : w.heap.size ≤ w'.heap.size
  block : ∀ b, b < w.heap.size → ¬ F b → w'.heap[b]? = w.heap[b]?
  foot : ∀ b, F' b → F b ∨ w.heap.size ≤ b
section
variable {w w1 w2 : World} {F F1 F2 : Nat → Prop}
theorem Turn.refl (F : Nat → Prop) (w : World) : Turn F w F w := ⟨rfl, rfl, rfl, Nat.le_refl _, fun _ _ _ => rfl, fun _ h => .inl h⟩
theorem Turn.trans (h : Turn F w F1 w1) (k : Turn F1 w1 F2 w2) : Turn F w F2 w2 :=
  ⟨k.os.trans h.os, k.tape.trans h.tape, k.output.trans h.output, Nat.le_trans h.size k.size,
   fun b hb hf => (k.block b (Nat.lt_of_lt_of_le hb h.size) (fun hc => (h.foot b hc).elim hf (by omega))).trans (h.block b hb hf),
   fun b hb => (k.foot b hb).elim (fun hc => h.foot b hc) (fun hc => .inr (Nat.le_trans h.size hc))⟩
theorem Turn.set (F : Nat → Prop) (w : World) {a : Addr} (ha : F a.block) (u : Value) : Turn F w F (w.setCell a u) :=
  ⟨rfl, rfl, rfl, by simp, fun b _ hf => heap_set_ne w a u (fun e => hf (e ▸ ha)), fun _ h => .inl h⟩
theorem Turn.alloc (F : Nat → Prop) (w : World) (o : Obj) : Turn F w F (w.alloc o) := ⟨rfl, rfl, rfl, by simp, fun b hb _ => heap_alloc_lt w o hb, fun _ h => .inl h⟩
theorem Turn.below (F : Nat → Prop) (h : Below w.heap.size w w1) : Turn F w F w1 := ⟨h.os, h.tape, h.output, h.size, fun b hb _ => h.block b hb, fun _ h => .inl h⟩
theorem Turn.drewN (F : Nat → Prop) (w : World) (q : Nat) : Turn F w F (w.drewN q) := ⟨rfl, rfl, rfl, Nat.le_refl _, fun _ _ _ => rfl, fun _ h => .inl h⟩
theorem Turn.down {B : Nat} (h : Turn F w F1 w1) (hF : ∀ b, F b → B ≤ b) (hB : B ≤ w.heap.size) : Below B w w1 :=
  ⟨h.os, h.tape, h.output, h.size, fun b hb => h.block b (by omega) (fun hf => by have := hF b hf; omega)⟩
theorem Turn.far {B : Nat} (h : Turn F w F1 w1) (hF : ∀ b, F b → B ≤ b) (hB : B ≤ w.heap.size) : ∀ b, F1 b → B ≤ b := fun b hb => (h.foot b hb).elim (hF b) (Nat.le_trans hB)
end
end Go.Proofs.YtkehojgiappiiaaGreatDoor
