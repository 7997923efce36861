/- Words for a table of clients: its entries, its cells, its block. Conditions: none. -/
import Derived.Test.YtbijaipoifpngaaDoorBPutA
import Derived.Deep.MidRow
import Derived.Lib.Hide
set_option linter.unusedVariables false
set_option linter.unusedSimpArgs false
namespace Go.Proofs.YtbijaipoifpngaaDoor.Be
open Go Go.RowKit
/-- It returns v, and what was there is as it was. -/
def Row (w : World) (g : Nat) (T : TypeId) (xs : List Value) : Prop := w.heap[g]? = some (.cells xs.toArray T (0, 0))
section
variable {w w' : World} {g : Nat} {T : TypeId} {xs : List Value}
theorem Row.lt (h : Row w g T xs) : g < w.heap.size := (Array.getElem?_eq_some_iff.1 h).1
theorem Row.cell (h : Row w g T xs) {j : Nat} {u : Value} (hj : xs[j]? = some u) : w.cell? ⟨g, j, none⟩ = some u := by
  unfold Row at h
  simp only [World.cell?, h]
  simpa using hj
theorem Row.frozen (h : Row w g T xs) (j : Nat) : w.frozen? ⟨g, j, none⟩ = false := by
  unfold Row at h
  simp only [World.frozen?, h]
  simp
theorem Row.set (h : Row w g T xs) (j : Nat) (u : Value) : Row (w.setCell ⟨g, j, none⟩ u) g T (xs.set j u) := by
  unfold Row at *
  simp only [World.setCell, Array.getElem?_modify, h]
  simp
theorem Row.new (w : World) (T : TypeId) (xs : List Value) : Row (w.alloc (.cells xs.toArray T)) w.heap.size T xs := by
  show (w.heap.push _)[w.heap.size]? = _
  simp
theorem Row.keep (h : Row w g T xs) (e : w'.heap[g]? = w.heap[g]?) : Row w' g T xs := e.trans h
theorem Row.on (h : Row w g T xs) (hb : Below w.heap.size w w') : Row w' g T xs := h.keep (hb.block g h.lt)
theorem Row.at_ (h : Row w g T xs) {B : Nat} (hb : Below B w w') (hB : g < B) : Row w' g T xs := h.keep (hb.block g hB)
end
theorem heap_set_ne (w : World) (a : Addr) (u : Value) {b : Nat} (h : b ≠ a.block) : (w.setCell a u).heap[b]? = w.heap[b]? := Below.heap_setCell w a u b h
theorem heap_alloc_lt (w : World) (o : Obj) {b : Nat} (h : b < w.heap.size) : (w.alloc o).heap[b]? = w.heap[b]? := Below.heap_alloc w o b h
theorem Row.al {w : World} {g : Nat} {T : TypeId} {xs : List Value} (h : Row w g T xs) (o : Obj) : Row (w.alloc o) g T xs := h.keep (heap_alloc_lt w o h.lt)
/-- What a client did last. -/
structure E where
  s : Int
  e : Int
  b : Bool
deriving DecidableEq
def e0 : E := ⟨0, 0, false⟩
instance : Inhabited E := ⟨e0⟩
def ecell (x : E) : List Value := [.int .i64 x.s, .int .i64 x.e, .bool x.b]
def qc (q : List E) : List Value := q.flatMap ecell
def q0 : List E := List.replicate 8 e0
def GoodE (x : E) : Prop := (0 ≤ x.s ∧ x.s ≤ 1099511627776) ∧ (0 ≤ x.e ∧ x.e ≤ 255) ∧ (x.s = 0 → x = e0)
structure Okq (q : List E) : Prop where
  len : q.length = 8
  good : ∀ x ∈ q, GoodE x
theorem okq0 : Okq q0 := ⟨rfl, fun x hx => by
  have : x = e0 := by simpa [q0] using hx
  subst this
  exact ⟨by decide, by decide, fun _ => rfl⟩⟩
theorem qc_len (q : List E) : (qc q).length = q.length * 3 := by
  unfold qc
  induction q with
  | nil => simp
  | cons x r ih => rw [List.flatMap_cons, List.length_append, ih]; simp [ecell]; omega
theorem qc_at (q : List E) : ∀ (k : Nat), k < q.length → ∀ j, j < 3 → (qc q)[k * 3 + j]? = (ecell q[k]!)[j]? := by
  unfold qc
  induction q with
  | nil => intro k hk; simp at hk
  | cons t r ih =>
    intro k hk j hj
    rw [List.flatMap_cons]
    rcases k with _ | k
    · rw [List.getElem?_append_left (by show 0 * 3 + j < 3; omega)]
      simp
    · rw [List.getElem?_append_right (by show 3 ≤ (k + 1) * 3 + j; omega)]
      rw [show (k + 1) * 3 + j - (ecell t).length = k * 3 + j from by show (k + 1) * 3 + j - 3 = _; omega, ih k (by simpa using hk) j hj]
      simp
theorem qc_one (q : List E) : ∀ v ∈ qc q, v.oneCell' = true := by
  intro v hv
  obtain ⟨x, hx, hv⟩ := List.mem_flatMap.1 hv
  simp [ecell] at hv
  rcases hv with rfl | rfl | rfl <;> rfl
theorem qc_set (q : List E) : ∀ (k : Nat), k < q.length → ∀ x : E, qc (q.set k x) = (((qc q).set (k * 3) (.int .i64 x.s)).set (k * 3 + 1) (.int .i64 x.e)).set (k * 3 + 2) (.bool x.b) := by
  unfold qc
  induction q with
  | nil => intro k hk; simp at hk
  | cons t r ih =>
    intro k hk x
    rcases k with _ | k
    · simp [ecell, List.flatMap_cons]
    · rw [List.set_cons_succ, List.flatMap_cons, List.flatMap_cons, ih k (by simpa using hk) x]
      have key : ∀ (L : List Value) (i : Nat) (v : Value), 3 ≤ i → (ecell t ++ L).set i v = ecell t ++ L.set (i - 3) v := fun L i v hi => by
        rw [List.set_append_right i v (by show 3 ≤ i; exact hi)]
        rfl
      rw [key _ _ _ (by omega), key _ _ _ (by omega), key _ _ _ (by omega)]
      rw [show (k + 1) * 3 - 3 = k * 3 by omega, show (k + 1) * 3 + 1 - 3 = k * 3 + 1 by omega, show (k + 1) * 3 + 2 - 3 = k * 3 + 2 by omega]
theorem Okq.at_ {q : List E} (h : Okq q) {k : Nat} (hk : k < 8) : GoodE q[k]! := by
  have hl := h.len
  rw [List.getElem!_eq_getElem?_getD, List.getElem?_eq_getElem (by omega)]
  exact h.good _ (List.getElem_mem _)
theorem Okq.set {q : List E} (h : Okq q) (k : Nat) {x : E} (hx : GoodE x) : Okq (q.set k x) := by
  refine ⟨by rw [List.length_set]; exact h.len, fun y hy => ?_⟩
  rcases List.mem_or_eq_of_mem_set hy with hy | rfl
  · exact h.good _ hy
  · exact hx
theorem set_get (q : List E) {k : Nat} (hk : k < q.length) (x : E) : (q.set k x)[k]! = x := by
  rw [List.getElem!_eq_getElem?_getD, List.getElem?_set_self hk]
  rfl
theorem set_ne (q : List E) {k j : Nat} (hk : k ≠ j) (x : E) : (q.set k x)[j]! = q[j]! := by
  rw [List.getElem!_eq_getElem?_getD, List.getElem!_eq_getElem?_getD, List.getElem?_set_ne hk]
/-- A table in memory. -/
structure TabAt (w : World) (p : Nat) (q : List E) : Prop where
  row : Row w p 59 (.pointer (some ⟨p, 0, none⟩) :: qc q)
  ok : Okq q
theorem TabAt.keep {w w' : World} {p : Nat} {q : List E} (h : TabAt w p q) (e : w'.heap[p]? = w.heap[p]?) : TabAt w' p q := ⟨h.row.keep e, h.ok⟩
theorem TabAt.on {w w' : World} {p : Nat} {q : List E} (h : TabAt w p q) (hb : Below w.heap.size w w') : TabAt w' p q := ⟨h.row.on hb, h.ok⟩
theorem TabAt.al {w : World} {p : Nat} {q : List E} (h : TabAt w p q) (o : Obj) : TabAt (w.alloc o) p q := ⟨h.row.al o, h.ok⟩
theorem TabAt.c0 {w : World} {p : Nat} {q : List E} (h : TabAt w p q) : w.cell? ⟨p, 0, none⟩ = some (.pointer (some ⟨p, 0, none⟩)) := h.row.cell rfl
theorem TabAt.cell {w : World} {p : Nat} {q : List E} (h : TabAt w p q) {k : Nat} (hk : k < 8) : w.cell? ⟨p, 1 + k * 3, none⟩ = some (.int .i64 q[k]!.s) ∧ w.cell? ⟨p, 1 + k * 3 + 1, none⟩ = some (.int .i64 q[k]!.e) ∧ w.cell? ⟨p, 1 + k * 3 + 2, none⟩ = some (.bool q[k]!.b) := by
  have hl := h.ok.len
  have g : ∀ j u, j < 3 → (ecell q[k]!)[j]? = some u → w.cell? ⟨p, 1 + k * 3 + j, none⟩ = some u := fun j u hj hu => by
    apply h.row.cell
    rw [show 1 + k * 3 + j = (k * 3 + j) + 1 by omega, List.getElem?_cons_succ, qc_at q k (by omega) j hj, hu]
  exact ⟨g 0 _ (by omega) rfl, g 1 _ (by omega) rfl, g 2 _ (by omega) rfl⟩
theorem grown_refl (w : World) (r : Option Nat) : w.grownBy w r := ⟨rfl, rfl, rfl, Nat.le_refl _, fun _ _ _ => rfl⟩
theorem Below.up {w w' : World} {r : Option Nat} (h : Below w.heap.size w w') : w.grownBy w' r := grown_below h r
/-- Another block, beside one that has turned. -/
theorem grown_keep {w w' : World} {p b : Nat} (h : w.grownBy w' (some p)) (hb : b < w.heap.size) (hne : b ≠ p) : w'.heap[b]? = w.heap[b]? := h.block b hb (by simpa using hne)
end Go.Proofs.YtbijaipoifpngaaDoor.Be
