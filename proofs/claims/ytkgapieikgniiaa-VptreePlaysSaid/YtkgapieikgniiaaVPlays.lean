/- VptreePlays: whatever is put in, dropped, asked for, and built anew, a tree answers as the document's. Conditions: the slice of calls reads as a list. -/
import Derived.Test.YtkgapieikgniiaaVDoes
import Derived.Test.YtkgapieikgniiaaVRSame
import Derived.Test.YtkgapieikgniiaaVOpen
set_option linter.unusedVariables false
set_option linter.unusedSimpArgs false
set_option maxRecDepth 100000
namespace Go.Proofs.Ytkgapieikgniiaa
open Go Go.ChangeShapes Go.WideShapes Go.ChangeAt Go.RowKit Go.Maps
/-- A call: its kind, its point, how many, how far. -/
abbrev OpV := Int × Pt × Int × Int
def ocell (o : OpV) : List Value := [.int .i64 o.1, .int .i64 o.2.1.1, .slice o.2.1.2.1.1 o.2.1.2.1.2.1 o.2.1.2.1.2.2, .int .i64 o.2.2.1, .int .i64 o.2.2.2]
instance : Inhabited OpV := ⟨(0, (0, (none, 0, 0), []), 0, 0)⟩
structure OpsW (w : World) (B : Nat) (A : Option Addr) (n : Nat) (l : List OpV) : Prop where
  row : Reads w B 5 A n (l.flatMap ocell)
  good : ∀ o ∈ l, GoodP w B o.2.1
theorem cells39 : Try.prog.cellsOf 39 = 5 := by kernel_rfl
section
variable {H : Type} {enc : TypeId × Value → H} {W : World} {spare : Nat → Bool} {a : Option Addr} {len cap : Nat} {d : DataW H} {p : List MemPlace} {hd : Bool}
theorem open_O (h : DataW.Trod enc Try.prog W 0 spare hd 22 (.slice a len cap) d p) : ∃ l : List OpV, OpsW W W.heap.size a len l ∧ len ≤ maxLen := by
  obtain ⟨fuel, hf⟩ := h
  rcases Go.Deep.open_slice Try.underlying22 hf with ⟨hcs, _⟩ | ⟨x, l, c, m, n, D, Pl, hcs, _, hl, hm, hmm, _, hx⟩
  · simp [Value.cells] at hcs
    obtain ⟨rfl, rfl, rfl⟩ := hcs
    exact ⟨[], ⟨Reads.none_, fun h hm => by simp at hm⟩, by decide⟩
  · simp [Value.cells] at hcs
    obtain ⟨rfl, rfl, rfl⟩ := hcs
    have hml : len ≤ m := by rw [hmm]; split <;> omega
    obtain ⟨ls, _, hwf, hr⟩ := reads_flat (α := OpV) ocell 5 (by omega) (fun _ => rfl) (fun o => GoodP W W.heap.size o.2.1) W x len (fun i hi => by
      obtain ⟨cs', h1, h2⟩ := hx i (by omega)
      rw [cells39] at h1
      obtain ⟨_, hl3, _⟩ := World.cells?_some h1
      obtain ⟨y0, y1, y2, y3, m', _, _, e0, e1, e2, e3⟩ := Go.Joins.trod_struct4 Try.underlying39 h2
      obtain ⟨z0, g0, _, wz0⟩ := DataW.trod_int Try.underlying3 e0
      obtain ⟨z2, g2, _, wz2⟩ := DataW.trod_int Try.underlying3 e2
      obtain ⟨z3, g3, _, wz3⟩ := DataW.trod_int Try.underlying3 e3
      rw [cells3] at g0 g2 g3
      match cs', hl3 with
      | [c0, c1, c2, c3, c4], _ =>
        simp at g0 g2 g3
        subst g0 g2 g3
        simp only [cells3, cells37] at e1
        obtain ⟨u0, u1, m2, _, _, f0, f1⟩ := trod_struct2 Try.underlying37 e1
        obtain ⟨z1, g1, _, wz1⟩ := DataW.trod_int Try.underlying3 f0
        rw [cells3] at g1
        simp at g1
        subst g1
        simp only [cells3, cells35] at f1
        have f2 : DataW.trod enc Try.prog W 0 spare hd m2 35 [c2] = some u1 := f1
        obtain ⟨b, k, cc, hc1⟩ : ∃ b k cc, c2 = .slice b k cc := by
          rcases Go.Deep.open_slice Try.underlying35 f2 with ⟨hcs, _⟩ | ⟨x, l, c, m, n, D, Pl, hcs, _⟩
          · exact ⟨none, 0, 0, by simpa using hcs⟩
          · exact ⟨some x, l, c, by simpa using hcs⟩
        subst hc1
        obtain ⟨L, hL⟩ := open_l (d := u1.1) (p := u1.2) ⟨m2, f2⟩
        exact ⟨(z0, (z1, (b, k, cc), L), z2, z3), ⟨hL, wz1⟩, h1⟩)
    exact ⟨ls, ⟨hr, hwf⟩, by omega⟩
end
theorem OpsW.below {w w' : World} {B n : Nat} {A : Option Addr} {l : List OpV} (h : OpsW w B A n l) (hb : Below B w w') : OpsW w' B A n l := ⟨h.row.below hb, fun o ho => ⟨⟨(h.good o ho).1.1.below hb, (h.good o ho).1.2⟩, (h.good o ho).2⟩⟩
theorem ocell_at (l : List OpV) : ∀ (k : Nat), k < l.length → ∀ j, j < 5 → (l.flatMap ocell)[k * 5 + j]? = (ocell l[k]!)[j]? := by
  induction l with
  | nil => intro k hk; simp at hk
  | cons t r ih =>
    intro k hk j hj
    rw [List.flatMap_cons]
    rcases k with _ | k
    · rw [List.getElem?_append_left (by show 0 * 5 + j < 5; omega)]
      simp
    · rw [List.getElem?_append_right (by show 5 ≤ (k + 1) * 5 + j; omega)]
      rw [show (k + 1) * 5 + j - (ocell t).length = k * 5 + j from by show (k + 1) * 5 + j - 5 = _; omega, ih k (by simpa using hk) j hj]
      simp
structure OpAt (w : World) (ad : Addr) (o : OpV) : Prop where
  c0 : w.cell? ad = some (.int .i64 o.1)
  c1 : w.cell? ⟨ad.block, ad.off + 1, none⟩ = some (.int .i64 o.2.1.1)
  c2 : w.cell? ⟨ad.block, ad.off + 2, none⟩ = some (.slice o.2.1.2.1.1 o.2.1.2.1.2.1 o.2.1.2.1.2.2)
  c3 : w.cell? ⟨ad.block, ad.off + 3, none⟩ = some (.int .i64 o.2.2.1)
  c4 : w.cell? ⟨ad.block, ad.off + 4, none⟩ = some (.int .i64 o.2.2.2)
theorem OpsW.at_ {w : World} {B n k : Nat} {A : Option Addr} {l : List OpV} (h : OpsW w B A n l) (hk : k < n) : ∃ ad, A = some ad ∧ ad.block < B ∧ OpAt w (ad.add (k * 5)) l[k]! ∧ GoodP w B (l[k]!).2.1 := by
  have hl : n = l.length := by
    have := h.row.1
    rw [flat_len ocell 5 (fun _ => rfl)] at this
    omega
  have hk' : k < l.length := by omega
  obtain ⟨ad, e, hb, hc⟩ := h.row.2 (by omega)
  have hm : l[k]! ∈ l := by
    rw [List.getElem!_eq_getElem?_getD, List.getElem?_eq_getElem hk']
    exact List.getElem_mem hk'
  have g : ∀ j u, j < 5 → (ocell l[k]!)[j]? = some u → w.cell? ((ad.add (k * 5)).add j) = some u := fun j u hj hu => by
    rw [add_of_add]
    exact hc _ u (by rw [ocell_at l k hk' j hj, hu])
  refine ⟨ad, e, hb, ⟨?_, ?_, ?_, ?_, ?_⟩, h.good _ hm⟩
  · exact hc _ _ ((ocell_at l k hk' 0 (by omega)).trans rfl)
  · exact g 1 _ (by omega) rfl
  · exact g 2 _ (by omega) rfl
  · exact g 3 _ (by omega) rfl
  · exact g 4 _ (by omega) rfl
theorem OpAt.keep {w w' : World} {ad : Addr} {o : OpV} (h : OpAt w ad o) (hk : w'.heap[ad.block]? = w.heap[ad.block]?) : OpAt w' ad o :=
  have e : ∀ o, w'.cell? ⟨ad.block, o, none⟩ = w.cell? ⟨ad.block, o, none⟩ := fun o => World.cell?_of_block (show w'.heap[(⟨ad.block, o, none⟩ : Addr).block]? = w.heap[(⟨ad.block, o, none⟩ : Addr).block]? from hk)
  ⟨(World.cell?_of_block hk).trans h.c0, (e _).trans h.c1, (e _).trans h.c2, (e _).trans h.c3, (e _).trans h.c4⟩
set_option maxHeartbeats 1000000 in
theorem rnew8_no (z : Int) (w : World) (hz : z < 1 ∨ 16 < z) : Calls Try.prog 12 #[.int .i64 z] w fun e w' => e = .returned (.tuple #[.agg #[.int .i64 0, .slice none 0 0], .int .i64 1]) ∧ Below w.heap.size w w' := by
  have r0 := Row.new w 29 [.int .i64 0, .slice none 0 0]
  have x0 := r0.cell (j := 0) rfl
  have x1 := r0.cell (j := 1) rfl
  have xl := r0.lt
  have hb : Below w.heap.size w (((w.alloc (.cells #[.int .i64 0, .slice none 0 0] 29)).setCell ⟨w.heap.size, 0, none⟩ (.int .i64 0)).setCell ⟨w.heap.size, 1, none⟩ (.slice none 0 0)) :=
    below_setCell (below_setCell ((Below.refl _ w).alloc (Nat.le_refl _) _) (Nat.le_refl _) _) (Nat.le_refl _) _
  have hs := (r0.set 0 (.int .i64 0)).set 1 (.slice none 0 0)
  have HB := Lib.hid hb
  have HS := Lib.hid hs
  clear r0 hb hs
  by_cases h1 : z < 1
  · clear hz
    go_enter Try.func12, Try.ntmps12
    go_wp2_with fail
    have g0 := HS.out.cell (j := 0) rfl
    have g1 := HS.out.cell (j := 1) rfl
    refine bodyPost_ret (v := .tuple #[.agg #[.int .i64 0, .slice none 0 0], .int .i64 1]) (by simp [results, Try.results12, go_sem, g0, g1]) rfl ?_
    exact ⟨rfl, by first | exact HB.out | exact (Below.refl _ w).alloc (Nat.le_refl _) _ | exact below_setCell (below_setCell ((Below.refl _ w).alloc (Nat.le_refl _) _) (Nat.le_refl _) _) (Nat.le_refl _) _⟩
  · have h2 : 16 < z := hz.resolve_left h1
    clear hz
    go_enter Try.func12, Try.ntmps12
    go_wp2_with fail
    have g0 := HS.out.cell (j := 0) rfl
    have g1 := HS.out.cell (j := 1) rfl
    refine bodyPost_ret (v := .tuple #[.agg #[.int .i64 0, .slice none 0 0], .int .i64 1]) (by simp [results, Try.results12, go_sem, g0, g1]) rfl ?_
    exact ⟨rfl, by first | exact HB.out | exact (Below.refl _ w).alloc (Nat.le_refl _) _ | exact below_setCell (below_setCell ((Below.refl _ w).alloc (Nat.le_refl _) _) (Nat.le_refl _) _) (Nat.le_refl _) _⟩
/-- Between two calls: both trees. -/
structure St (b0 : Nat) (w0 : World) (t dim qb : Nat) (V : World) (F : Nat → Prop) (A : Option Addr) (c : Nat) (l : List Pt) : Prop where
  mine : Mine b0 w0 V F t dim (l.map bareP)
  doc : DocIn V (fun b => F b ∨ b = qb) A c l
  row : Row V qb 29 [.int .i64 (dim : Int), .slice A l.length c]
  qF : ¬ F qb
/-- Behind a call: what the document answers, in a box at `nb`. -/
structure Got (b0 : Nat) (w0 : World) (t dim qb nb : Nat) (V : World) (F : Nat → Prop) (A : Option Addr) (c : Nat) (l : List Pt) (sl : Value) : Prop where
  mine : Mine b0 w0 V F t dim (l.map bareP)
  doc : DocIn V (fun b => F b ∨ b = qb) A c l
  box : Row V nb 29 [.int .i64 (dim : Int), .slice A l.length c]
  row : Row V qb 29 [.int .i64 (dim : Int), sl]
  qF : ¬ F qb
section
variable {b0 t dim qb nb c : Nat} {w0 V wr w8 : World} {F F' : Nat → Prop} {A A' : Option Addr} {l l' : List Pt} {sl : Value} {c' : Nat}
theorem Got.store (h : Got b0 w0 t dim qb nb V F A c l sl) (hb : b0 ≤ qb) : St b0 w0 t dim qb ((V.setCell ⟨qb, 0, none⟩ (.int .i64 (dim : Int))).setCell ⟨qb, 1, none⟩ (.slice A l.length c)) F A c l := by
  have hT := Mid.turnX qb V (.int .i64 (dim : Int)) (.slice A l.length c)
  refine ⟨⟨h.mine.tree.turn hT (fun b hb e => h.qF (by have e : b = qb := e; rw [← e]; exact hb)), h.mine.up, h.mine.below.trans (hT.down (fun b hb => by have e : b = qb := hb; omega) h.mine.le), by have := h.mine.le; simpa using this⟩, ?_, (h.row.set 0 _).set 1 _, h.qF⟩
  exact (DocW.keep h.doc (fun b hP => hT.block b hP.1 (fun e => hP.2 (.inr e))) (by simp)).more (fun b hP => ⟨by simpa using hP.1, hP.2⟩) (fun b hP => hP.1)
theorem St.below (h : St b0 w0 t dim qb V F A c l) (hb : Below V.heap.size V w8) : St b0 w0 t dim qb w8 F A c l :=
  ⟨h.mine.under hb, h.doc.below hb, h.row.keep (hb.block _ h.row.lt), h.qF⟩
/-- The box is made behind the call. -/
theorem got_new (h : St b0 w0 t dim qb wr F A c l) (hm : Mine b0 w0 w8 F' t dim (l'.map bareP)) (hd : DocIn w8 (fun b => F' b ∨ b = qb) A' c' l') (k : Turn F wr.drew F' w8) :
    Got b0 w0 t dim qb w8.heap.size (w8.alloc (.cells #[.int .i64 (dim : Int), .slice A' l'.length c'] 29)) F' A' c' l' (.slice A l.length c) := by
  have ba : Below w8.heap.size w8 (w8.alloc (.cells #[.int .i64 (dim : Int), .slice A' l'.length c'] 29)) := (Below.refl _ w8).alloc (Nat.le_refl _) _
  have hr : Row w8 qb 29 [.int .i64 (dim : Int), .slice A l.length c] := h.row.keep (k.block _ h.row.lt h.qF)
  exact ⟨hm.under ba, hd.below ba, Row.new w8 _ [.int .i64 (dim : Int), .slice A' l'.length c'], hr.keep (ba.block _ hr.lt), fun hf => (k.foot _ hf).elim h.qF (fun h1 => by have := h.row.lt; have h1 : wr.heap.size ≤ qb := h1; omega)⟩
/-- The box was made ahead of it. -/
theorem got_old (h : St b0 w0 t dim qb wr F A c l) (hb0 : b0 ≤ wr.heap.size) (hm : Mine b0 w0 w8 F' t dim (l'.map bareP)) (hd : DocIn w8 (fun b => F' b ∨ (b = qb ∨ b = wr.heap.size)) A' c' l') (k : Turn F (wr.alloc (.cells #[.int .i64 0, .slice none 0 0] 29)).drew F' w8) :
    Row w8 wr.heap.size 29 [.int .i64 0, .slice none 0 0] ∧
    Got b0 w0 t dim qb wr.heap.size ((w8.setCell ⟨wr.heap.size, 0, none⟩ (.int .i64 (dim : Int))).setCell ⟨wr.heap.size, 1, none⟩ (.slice A' l'.length c')) F' A' c' l' (.slice A l.length c) := by
  have hlt := h.row.lt
  have hs : (wr.alloc (.cells #[.int .i64 0, .slice none 0 0] 29)).drew.heap.size = wr.heap.size + 1 := by show (wr.alloc _).heap.size = _; simp
  have hnF : ¬ F' wr.heap.size := fun hf => (k.foot _ hf).elim (fun h1 => by have := h.mine.tree.lt _ h1; omega) (fun h1 => by omega)
  have hqF : ¬ F' qb := fun hf => (k.foot _ hf).elim h.qF (fun h1 => by omega)
  have r0 : Row (wr.alloc (.cells #[.int .i64 0, .slice none 0 0] 29)).drew wr.heap.size 29 [.int .i64 0, .slice none 0 0] := Row.new wr _ [.int .i64 0, .slice none 0 0]
  have r8 : Row w8 wr.heap.size 29 [.int .i64 0, .slice none 0 0] := r0.keep (k.block _ (by omega) (fun hf => by have := h.mine.tree.lt _ hf; omega))
  have q1 : Row (wr.alloc (.cells #[.int .i64 0, .slice none 0 0] 29)).drew qb 29 [.int .i64 (dim : Int), .slice A l.length c] := h.row.keep (heap_alloc_lt _ _ hlt)
  have q8 : Row w8 qb 29 [.int .i64 (dim : Int), .slice A l.length c] := q1.keep (k.block _ (by omega) h.qF)
  have hT := Mid.turnX wr.heap.size w8 (.int .i64 (dim : Int)) (.slice A' l'.length c')
  refine ⟨r8, ⟨hm.tree.turn hT (fun b hb e => hnF (by have e : b = wr.heap.size := e; rw [← e]; exact hb)), hm.up, hm.below.trans (hT.down (fun b hb => by have e : b = wr.heap.size := hb; omega) hm.le), by have := hm.le; simpa using this⟩, ?_, (r8.set 0 _).set 1 _, q8.keep (hT.block _ q8.lt (fun e => by have e : qb = wr.heap.size := e; omega)), hqF⟩
  exact (DocW.keep hd (fun b hP => hT.block b hP.1 (fun e => hP.2 (.inr (.inr e)))) (by simp)).more (fun b hP => ⟨by simpa using hP.1, fun hf => hP.2 (hf.imp id .inl)⟩) (fun b hP => hP.1)
end
/-- What a walk through a call's region reads, in any world that keeps two blocks. -/
theorem seven_keep {W W' : World} {qb : Nat} {a5 : Addr} {y0 y1 v0 v1 v2 v3 v4 : Value} (h : W.cell? ⟨qb, 0, none⟩ = some y0 ∧ W.cell? ⟨qb, 1, none⟩ = some y1 ∧ W.cell? a5 = some v0 ∧ W.cell? ⟨a5.block, a5.off + 1, none⟩ = some v1 ∧ W.cell? ⟨a5.block, a5.off + 2, none⟩ = some v2 ∧ W.cell? ⟨a5.block, a5.off + 3, none⟩ = some v3 ∧ W.cell? ⟨a5.block, a5.off + 4, none⟩ = some v4)
    (h1 : W'.heap[qb]? = W.heap[qb]?) (h2 : W'.heap[a5.block]? = W.heap[a5.block]?) :
    W'.cell? ⟨qb, 0, none⟩ = some y0 ∧ W'.cell? ⟨qb, 1, none⟩ = some y1 ∧ W'.cell? a5 = some v0 ∧ W'.cell? ⟨a5.block, a5.off + 1, none⟩ = some v1 ∧ W'.cell? ⟨a5.block, a5.off + 2, none⟩ = some v2 ∧ W'.cell? ⟨a5.block, a5.off + 3, none⟩ = some v3 ∧ W'.cell? ⟨a5.block, a5.off + 4, none⟩ = some v4 := by
  have e1 : ∀ o, W'.cell? ⟨qb, o, none⟩ = W.cell? ⟨qb, o, none⟩ := fun o => World.cell?_of_block (show W'.heap[(⟨qb, o, none⟩ : Addr).block]? = W.heap[(⟨qb, o, none⟩ : Addr).block]? from h1)
  have e2 : ∀ o, W'.cell? ⟨a5.block, o, none⟩ = W.cell? ⟨a5.block, o, none⟩ := fun o => World.cell?_of_block (show W'.heap[(⟨a5.block, o, none⟩ : Addr).block]? = W.heap[(⟨a5.block, o, none⟩ : Addr).block]? from h2)
  exact ⟨(e1 _).trans h.1, (e1 _).trans h.2.1, (World.cell?_of_block h2).trans h.2.2.1, (e2 _).trans h.2.2.2.1, (e2 _).trans h.2.2.2.2.1, (e2 _).trans h.2.2.2.2.2.1, (e2 _).trans h.2.2.2.2.2.2⟩
theorem tpneq_none (d : Nat) (w : World) : (binOp .neq 23 (.pointer (some ⟨d, 0, none⟩)) (.pointer none)).run Try.prog w = .ok (.bool true) w := by
  obtain ⟨i, hi, _⟩ := Option.map_eq_some_iff.1 (show (Try.prog.info? 66).map (fun i => i.size) = some 5 by kernel_rfl)
  have h : ∀ d' : Nat, (Op.equalIn (d' + 1) 23 (.pointer (some ⟨d, 0, none⟩)) (.pointer none)).run Try.prog w = .ok false w := fun d' => by
    simp [Op.equalIn, run_underlying Try.underlying23, sizeOf, typeInfo, hi]
  simp only [binOp]
  simp [Op.equal, Op.maxDepth, h 9999]
theorem tpneq_nil (w : World) : (binOp .neq 23 (.pointer none) (.pointer none)).run Try.prog w = .ok (.bool false) w := by
  obtain ⟨i, hi, _⟩ := Option.map_eq_some_iff.1 (show (Try.prog.info? 66).map (fun i => i.size) = some 5 by kernel_rfl)
  have h : ∀ d' : Nat, (Op.equalIn (d' + 1) 23 (.pointer none) (.pointer none)).run Try.prog w = .ok true w := fun d' => by
    simp [Op.equalIn, run_underlying Try.underlying23, sizeOf, typeInfo, hi]
  simp only [binOp]
  simp [Op.equal, Op.maxDepth, h 9999]
theorem tpeql_nil (w : World) : (binOp .eql 23 (.pointer none) (.pointer none)).run Try.prog w = .ok (.bool true) w := by
  obtain ⟨i, hi, _⟩ := Option.map_eq_some_iff.1 (show (Try.prog.info? 66).map (fun i => i.size) = some 5 by kernel_rfl)
  have h : ∀ d' : Nat, (Op.equalIn (d' + 1) 23 (.pointer none) (.pointer none)).run Try.prog w = .ok true w := fun d' => by
    simp [Op.equalIn, run_underlying Try.underlying23, sizeOf, typeInfo, hi]
  simp only [binOp]
  simp [Op.equal, Op.maxDepth, h 9999]
set_option maxHeartbeats 8000000 in
set_option maxRecDepth 100000 in
theorem vptreePlays_walk (z : Int) (A0 : Option Addr) (n0 c0 : Nat) (l0 : List OpV) (w : World) (hO : OpsW w w.heap.size A0 n0 l0) (hm0 : n0 ≤ maxLen) :
    Calls Try.prog 3 #[.int .i64 z, .slice A0 n0 c0] w (Gives (.bool true) w) := by
  have HAW := Lib.hid awake_any
  have HO := Lib.hid hO
  unfold maxLen at hm0
  clear hO
  by_cases hd : 1 ≤ z ∧ z ≤ 16
  · obtain ⟨d, rfl⟩ : ∃ d : Nat, z = d := ⟨z.toNat, by omega⟩
    have hnew := vnew_any d w (by omega) (by omega)
    have HD := Lib.hid hd
    clear hd
    go_enter Try.func3, Try.ntmps3
    go_wp2_with fail
    refine hnew.mono ?_
    rintro e w2 ⟨F2, t, rfl, ht2, hF2, hb2⟩
    have HT2 := Lib.hid (Mine.new (Below.refl _ w) (Nat.le_refl _) ht2 hF2 hb2)
    have ea := tpeql_none t
    have en := tpneq_none t
    have hrn := rnew8_any d w2 (by have := HD.out; omega) (by have := HD.out; omega)
    clear ht2 hF2 hb2 hnew
    go_wp2_with fail
    refine hrn.mono ?_
    rintro e w3 ⟨rfl, hb3⟩
    have hst : St w.heap.size w t d w3.heap.size (w3.alloc (.cells #[.int .i64 (d : Int), .slice none 0 0] 29)) F2 none 0 [] := by
      have M3 := HT2.out.under hb3
      exact ⟨M3.under ((Below.refl _ w3).alloc (Nat.le_refl _) _), DocW.nil (fun b hb => hb.1), Row.new w3 29 [.int .i64 (d : Int), .slice none 0 0], fun hF => by have := M3.tree.lt _ hF; omega⟩
    have hqb : w.heap.size ≤ w3.heap.size := (HT2.out.under hb3).le
    have HST := Lib.hid hst
    clear hst hb3 hrn
    go_wp2_with fail
    generalize hq : w3.heap.size = qb at *
    have HQ := Lib.hid hq
    have HQB : Hid (w.heap.size ≤ qb) := Lib.hid hqb
    clear hq
    go_loopg [9] n0 (fun gx vi wr => ∃ (i : Nat) (F : Nat → Prop) (A : Option Addr) (c : Nat) (l : List Pt), i ≤ n0 ∧ n0 - i ≤ gx ∧ vi = .int .i64 i ∧ Hid (St w.heap.size w t d qb wr F A c l))
    case atStart => exact ⟨0, F2, none, 0, [], by omega, by omega, rfl, HST⟩
    case round =>
      obtain ⟨i, F, A, c, l, hi, hgx, rfl, HT⟩ := hrel
      clear HST
      by_cases hlt : i < n0
      · have hltz : (i : Int) < (n0 : Int) := by omega
        by_cases h150 : i < 150
        · have h150z : (i : Int) < 150 := by omega
          have hbw : Below w.heap.size w wr := HT.out.mine.below
          have hbs := hbw.size
          obtain ⟨ad, hA, hab, hat, hgp⟩ := (HO.out.below hbw).at_ hlt
          subst hA
          generalize l0[i]! = o at *
          obtain ⟨kd, ⟨px, ⟨pA, pn, pc⟩, pv⟩, kk, lm⟩ := o
          have x0 : wr.cell? (ad.add (i * 5)) = some (.int .i64 kd) := hat.c0
          have x1 : wr.cell? ⟨(ad.add (i * 5)).block, (ad.add (i * 5)).off + 1, none⟩ = some (.int .i64 px) := hat.c1
          have x2 : wr.cell? ⟨(ad.add (i * 5)).block, (ad.add (i * 5)).off + 2, none⟩ = some (.slice pA pn pc) := hat.c2
          have x3 : wr.cell? ⟨(ad.add (i * 5)).block, (ad.add (i * 5)).off + 3, none⟩ = some (.int .i64 kk) := hat.c3
          have x4 : wr.cell? ⟨(ad.add (i * 5)).block, (ad.add (i * 5)).off + 4, none⟩ = some (.int .i64 lm) := hat.c4
          have hadl : (ad.add (i * 5)).block < w.heap.size := by rw [block_of_add]; exact hab
          have hadF : ¬ F (ad.add (i * 5)).block := fun hf => by have := HT.out.mine.up _ hf; omega
          have hgr : Reads wr w.heap.size 1 pA pn (ints pv) := hgp.1.1
          have hgm : pn ≤ maxLen := hgp.1.2
          have hgl : pn = pv.length := by have := hgr.1; rw [ints_len] at this; omega
          have hup := HT.out.mine.up
          have hp : PtBy wr (fun b => F b ∨ b = qb) (px, (pA, pn, pc), pv) := ⟨hgl, fun h0 => by
              obtain ⟨a', e, hb', hc'⟩ := hgr.2 (by rw [hgl]; exact h0)
              exact ⟨a', e, ⟨Nat.lt_of_lt_of_le hb' hbs, fun hf => hf.elim (fun h1 => by have := hup _ h1; omega) (fun h1 => by have := HQB.out; omega)⟩, hc'⟩, by rw [← hgl]; exact hgm, hgp.2⟩
          clear hup
          have y0 := HT.out.row.cell (j := 0) rfl
          have y1 := HT.out.row.cell (j := 1) rfl
          have ylt := HT.out.row.lt
          obtain ⟨ln, hln⟩ : ∃ ln, ln = l.length := ⟨_, rfl⟩
          have hdo1 : Calls Try.prog 14 #[.pointer (some ⟨t, 0, none⟩), .agg #[.int .i64 (d : Int), .slice A l.length c], .agg #[.int .i64 kd, .int .i64 px, .slice pA pn pc, .int .i64 kk, .int .i64 lm]] wr.drew (DoesPost (fun b => b = qb) w.heap.size w F t d wr.drew) :=
            does_any (w := wr.drew) (p := (px, (pA, pn, pc), pv)) (fun b e => by rw [e]; exact ylt) (HT.out.mine.drewN 1) (HT.out.doc.below (below_drewN (Below.refl _ wr) 1)) (hp.below (below_drewN (Below.refl _ wr) 1)) kd kk lm
          have bz : Below wr.heap.size wr (wr.alloc (.cells #[.int .i64 0, .slice none 0 0] 29)).drew := below_drewN ((Below.refl _ wr).alloc (Nat.le_refl _) _) 1
          have sz : (wr.alloc (.cells #[.int .i64 0, .slice none 0 0] 29)).drew.heap.size = wr.heap.size + 1 := by show (wr.alloc _).heap.size = _; simp
          have hdo2 : Calls Try.prog 14 #[.pointer (some ⟨t, 0, none⟩), .agg #[.int .i64 (d : Int), .slice A l.length c], .agg #[.int .i64 kd, .int .i64 px, .slice pA pn pc, .int .i64 kk, .int .i64 lm]] (wr.alloc (.cells #[.int .i64 0, .slice none 0 0] 29)).drew (DoesPost (fun b => b = qb ∨ b = wr.heap.size) w.heap.size w F t d (wr.alloc (.cells #[.int .i64 0, .slice none 0 0] 29)).drew) :=
            does_any (w := (wr.alloc (.cells #[.int .i64 0, .slice none 0 0] 29)).drew) (E := fun b => b = qb ∨ b = wr.heap.size) (p := (px, (pA, pn, pc), pv)) (fun b e => by rw [sz]; rcases e with e | e <;> omega) (HT.out.mine.under bz) (HT.out.doc.box (E := fun b => b = qb) bz (Nat.le_refl _)) (hp.box (E := fun b => b = qb) bz (Nat.le_refl _)) kd kk lm
          rw [← hln] at hdo1 hdo2 y1
          have HLN := Lib.hid hln
          have HS7 := Lib.hid (show wr.cell? ⟨qb, 0, none⟩ = some (.int .i64 (d : Int)) ∧ wr.cell? ⟨qb, 1, none⟩ = some (.slice A ln c) ∧ wr.cell? (ad.add (i * 5)) = some (.int .i64 kd) ∧ wr.cell? ⟨(ad.add (i * 5)).block, (ad.add (i * 5)).off + 1, none⟩ = some (.int .i64 px) ∧ wr.cell? ⟨(ad.add (i * 5)).block, (ad.add (i * 5)).off + 2, none⟩ = some (.slice pA pn pc) ∧ wr.cell? ⟨(ad.add (i * 5)).block, (ad.add (i * 5)).off + 3, none⟩ = some (.int .i64 kk) ∧ wr.cell? ⟨(ad.add (i * 5)).block, (ad.add (i * 5)).off + 4, none⟩ = some (.int .i64 lm) from ⟨y0, y1, x0, x1, x2, x3, x4⟩)
          have HX1 := Lib.hid (show ∀ (w8 : World) (F' : Nat → Prop) (A' : Option Addr) (c' : Nat) (l' : List Pt), Mine w.heap.size w w8 F' t d (l'.map bareP) → DocIn w8 (fun b => F' b ∨ b = qb) A' c' l' → Turn F wr.drew F' w8 → Got w.heap.size w t d qb w8.heap.size (w8.alloc (.cells #[.int .i64 (d : Int), .slice A' l'.length c'] 29)) F' A' c' l' (.slice A l.length c) ∧ (w8.cell? ⟨qb, 0, none⟩ = some (.int .i64 (d : Int)) ∧ w8.cell? ⟨qb, 1, none⟩ = some (.slice A ln c) ∧ w8.cell? (ad.add (i * 5)) = some (.int .i64 kd) ∧ w8.cell? ⟨(ad.add (i * 5)).block, (ad.add (i * 5)).off + 1, none⟩ = some (.int .i64 px) ∧ w8.cell? ⟨(ad.add (i * 5)).block, (ad.add (i * 5)).off + 2, none⟩ = some (.slice pA pn pc) ∧ w8.cell? ⟨(ad.add (i * 5)).block, (ad.add (i * 5)).off + 3, none⟩ = some (.int .i64 kk) ∧ w8.cell? ⟨(ad.add (i * 5)).block, (ad.add (i * 5)).off + 4, none⟩ = some (.int .i64 lm)) ∧ wr.heap.size ≤ w8.heap.size from fun w8 F' A' c' l' h1 h2 h3 =>
            ⟨got_new HT.out h1 h2 h3, seven_keep HS7.out (h3.block _ ylt HT.out.qF) (h3.block _ (show (ad.add (i * 5)).block < wr.heap.size by omega) hadF), h3.size⟩)
          have HX2 := Lib.hid (show ∀ (w8 : World) (F' : Nat → Prop) (A' : Option Addr) (c' : Nat) (l' : List Pt), Mine w.heap.size w w8 F' t d (l'.map bareP) → DocIn w8 (fun b => F' b ∨ (b = qb ∨ b = wr.heap.size)) A' c' l' → Turn F (wr.alloc (.cells #[.int .i64 0, .slice none 0 0] 29)).drew F' w8 → (Row w8 wr.heap.size 29 [.int .i64 0, .slice none 0 0] ∧ Got w.heap.size w t d qb wr.heap.size ((w8.setCell ⟨wr.heap.size, 0, none⟩ (.int .i64 (d : Int))).setCell ⟨wr.heap.size, 1, none⟩ (.slice A' l'.length c')) F' A' c' l' (.slice A l.length c)) ∧ (w8.cell? ⟨qb, 0, none⟩ = some (.int .i64 (d : Int)) ∧ w8.cell? ⟨qb, 1, none⟩ = some (.slice A ln c) ∧ w8.cell? (ad.add (i * 5)) = some (.int .i64 kd) ∧ w8.cell? ⟨(ad.add (i * 5)).block, (ad.add (i * 5)).off + 1, none⟩ = some (.int .i64 px) ∧ w8.cell? ⟨(ad.add (i * 5)).block, (ad.add (i * 5)).off + 2, none⟩ = some (.slice pA pn pc) ∧ w8.cell? ⟨(ad.add (i * 5)).block, (ad.add (i * 5)).off + 3, none⟩ = some (.int .i64 kk) ∧ w8.cell? ⟨(ad.add (i * 5)).block, (ad.add (i * 5)).off + 4, none⟩ = some (.int .i64 lm)) ∧ wr.heap.size ≤ w8.heap.size from fun w8 F' A' c' l' h1 h2 h3 =>
            ⟨got_old HT.out hbs h1 h2 h3, seven_keep HS7.out ((h3.block _ (by omega) HT.out.qF).trans (bz.block _ ylt)) ((h3.block _ (show (ad.add (i * 5)).block < (wr.alloc (.cells #[.int .i64 0, .slice none 0 0] 29)).drew.heap.size by omega) hadF).trans (bz.block _ (by omega))), by have := h3.size; omega⟩)
          have HKA := Lib.hid (show ∀ (W : World) (o : Obj), wr.heap.size ≤ W.heap.size → (W.cell? ⟨qb, 0, none⟩ = some (.int .i64 (d : Int)) ∧ W.cell? ⟨qb, 1, none⟩ = some (.slice A ln c) ∧ W.cell? (ad.add (i * 5)) = some (.int .i64 kd) ∧ W.cell? ⟨(ad.add (i * 5)).block, (ad.add (i * 5)).off + 1, none⟩ = some (.int .i64 px) ∧ W.cell? ⟨(ad.add (i * 5)).block, (ad.add (i * 5)).off + 2, none⟩ = some (.slice pA pn pc) ∧ W.cell? ⟨(ad.add (i * 5)).block, (ad.add (i * 5)).off + 3, none⟩ = some (.int .i64 kk) ∧ W.cell? ⟨(ad.add (i * 5)).block, (ad.add (i * 5)).off + 4, none⟩ = some (.int .i64 lm)) → ((W.alloc o).cell? ⟨qb, 0, none⟩ = some (.int .i64 (d : Int)) ∧ (W.alloc o).cell? ⟨qb, 1, none⟩ = some (.slice A ln c) ∧ (W.alloc o).cell? (ad.add (i * 5)) = some (.int .i64 kd) ∧ (W.alloc o).cell? ⟨(ad.add (i * 5)).block, (ad.add (i * 5)).off + 1, none⟩ = some (.int .i64 px) ∧ (W.alloc o).cell? ⟨(ad.add (i * 5)).block, (ad.add (i * 5)).off + 2, none⟩ = some (.slice pA pn pc) ∧ (W.alloc o).cell? ⟨(ad.add (i * 5)).block, (ad.add (i * 5)).off + 3, none⟩ = some (.int .i64 kk) ∧ (W.alloc o).cell? ⟨(ad.add (i * 5)).block, (ad.add (i * 5)).off + 4, none⟩ = some (.int .i64 lm)) from fun W o hs h => seven_keep h (heap_alloc_lt _ _ (by omega)) (heap_alloc_lt _ _ (by omega)))
          have HKS := Lib.hid (show ∀ (W : World) (u v : Value), (W.cell? ⟨qb, 0, none⟩ = some (.int .i64 (d : Int)) ∧ W.cell? ⟨qb, 1, none⟩ = some (.slice A ln c) ∧ W.cell? (ad.add (i * 5)) = some (.int .i64 kd) ∧ W.cell? ⟨(ad.add (i * 5)).block, (ad.add (i * 5)).off + 1, none⟩ = some (.int .i64 px) ∧ W.cell? ⟨(ad.add (i * 5)).block, (ad.add (i * 5)).off + 2, none⟩ = some (.slice pA pn pc) ∧ W.cell? ⟨(ad.add (i * 5)).block, (ad.add (i * 5)).off + 3, none⟩ = some (.int .i64 kk) ∧ W.cell? ⟨(ad.add (i * 5)).block, (ad.add (i * 5)).off + 4, none⟩ = some (.int .i64 lm)) → (((W.setCell ⟨wr.heap.size, 0, none⟩ u).setCell ⟨wr.heap.size, 1, none⟩ v).cell? ⟨qb, 0, none⟩ = some (.int .i64 (d : Int)) ∧ ((W.setCell ⟨wr.heap.size, 0, none⟩ u).setCell ⟨wr.heap.size, 1, none⟩ v).cell? ⟨qb, 1, none⟩ = some (.slice A ln c) ∧ ((W.setCell ⟨wr.heap.size, 0, none⟩ u).setCell ⟨wr.heap.size, 1, none⟩ v).cell? (ad.add (i * 5)) = some (.int .i64 kd) ∧ ((W.setCell ⟨wr.heap.size, 0, none⟩ u).setCell ⟨wr.heap.size, 1, none⟩ v).cell? ⟨(ad.add (i * 5)).block, (ad.add (i * 5)).off + 1, none⟩ = some (.int .i64 px) ∧ ((W.setCell ⟨wr.heap.size, 0, none⟩ u).setCell ⟨wr.heap.size, 1, none⟩ v).cell? ⟨(ad.add (i * 5)).block, (ad.add (i * 5)).off + 2, none⟩ = some (.slice pA pn pc) ∧ ((W.setCell ⟨wr.heap.size, 0, none⟩ u).setCell ⟨wr.heap.size, 1, none⟩ v).cell? ⟨(ad.add (i * 5)).block, (ad.add (i * 5)).off + 3, none⟩ = some (.int .i64 kk) ∧ ((W.setCell ⟨wr.heap.size, 0, none⟩ u).setCell ⟨wr.heap.size, 1, none⟩ v).cell? ⟨(ad.add (i * 5)).block, (ad.add (i * 5)).off + 4, none⟩ = some (.int .i64 lm)) from fun W u v h => seven_keep h ((heap_set_ne _ _ _ (show qb ≠ wr.heap.size by omega)).trans (heap_set_ne _ _ _ (show qb ≠ wr.heap.size by omega))) ((heap_set_ne _ _ _ (show (ad.add (i * 5)).block ≠ wr.heap.size by omega)).trans (heap_set_ne _ _ _ (show (ad.add (i * 5)).block ≠ wr.heap.size by omega))))
          have cl : (ad.add (i * 5)).block < wr.heap.size := by omega
          clear hbw hbs hab hat hgp hadl hadF hp hln bz sz hgr hgm hgl
          go_upto_region 10 with fail
          go_cut [10, 11] from 45 to 54 (fun s10 s11 wc => ∃ (nb : Nat) (F' : Nat → Prop) (A' : Option Addr) (c' : Nat) (l' : List Pt), s10 = .pointer (some ⟨nb, 0, none⟩) ∧ s11 = .bool true ∧ Hid (Got w.heap.size w t d qb nb wc F' A' c' l' (.slice A l.length c)))
          case first =>
            go_region_held3 (fun w' => w'.cell? ⟨qb, 0, none⟩ = some (.int .i64 (d : Int)) ∧ w'.cell? ⟨qb, 1, none⟩ = some (.slice A ln c) ∧ w'.cell? (ad.add (i * 5)) = some (.int .i64 kd) ∧ w'.cell? ⟨(ad.add (i * 5)).block, (ad.add (i * 5)).off + 1, none⟩ = some (.int .i64 px) ∧ w'.cell? ⟨(ad.add (i * 5)).block, (ad.add (i * 5)).off + 2, none⟩ = some (.slice pA pn pc) ∧ w'.cell? ⟨(ad.add (i * 5)).block, (ad.add (i * 5)).off + 3, none⟩ = some (.int .i64 kk) ∧ w'.cell? ⟨(ad.add (i * 5)).block, (ad.add (i * 5)).off + 4, none⟩ = some (.int .i64 lm)) (first | exact HS7.out | exact HS8.out | exact HKA.out _ _ HSZ8.out HS8.out | exact HKS.out _ _ _ HS8.out | go_keep)
              (first
                | (go_at_call 14; with_reducible refine hdo1.mono ?_; intro e w8 hpost; unfold DoesPost at hpost; obtain ⟨F', A', c', l', rfl, hm8, hd8, hk8⟩ := hpost; have HPO := Lib.hid (HX1.out w8 F' A' c' l' hm8 hd8 hk8); have HS8 := Lib.hid HPO.out.2.1; have HSZ8 := Lib.hid HPO.out.2.2; clear hm8 hd8 hk8)
                | (go_at_call 14; with_reducible refine hdo2.mono ?_; intro e w8 hpost; unfold DoesPost at hpost; obtain ⟨F', A', c', l', rfl, hm8, hd8, hk8⟩ := hpost; have HPO := Lib.hid (HX2.out w8 F' A' c' l' hm8 hd8 hk8); have hob := HPO.out.1.1; have o0 := hob.cell (j := 0) rfl; have o1 := hob.cell (j := 1) rfl; have of0 := hob.frozen 0; have of1 := hob.frozen 1; have ol := hob.lt; have HS8 := Lib.hid HPO.out.2.1; have HSZ8 := Lib.hid HPO.out.2.2; clear hm8 hd8 hk8 hob))
            · go_wp2_with fail
              go_meet
              exact ⟨_, F', A', c', l', rfl, rfl, Lib.hid HPO.out.1⟩
            · go_wp2_with fail
              go_meet
              exact ⟨_, F', A', c', l', rfl, rfl, Lib.hid HPO.out.1.2⟩
          case rest =>
            obtain ⟨nb, F', A', c', l', rfl, rfl, HC⟩ := hcut
            have hbr := HC.out.box
            have hqr := HC.out.row
            have n0c := hbr.cell (j := 0) rfl
            have n1c := hbr.cell (j := 1) rfl
            have nbl := hbr.lt
            have q0c := hqr.cell (j := 0) rfl
            have q1c := hqr.cell (j := 1) rfl
            have q0f := hqr.frozen 0
            have q1f := hqr.frozen 1
            have qbl := hqr.lt
            have hst := HC.out.store HQB.out
            have HEND := Lib.hid hst
            have s0c := hst.row.cell (j := 0) rfl
            have s1c := hst.row.cell (j := 1) rfl
            have sbl := hst.row.lt
            have hlen : ∀ q, Calls Try.prog 15 #[.pointer (some ⟨t, 0, none⟩)] (((wc.setCell ⟨qb, 0, none⟩ (.int .i64 (d : Int))).setCell ⟨qb, 1, none⟩ (.slice A' l'.length c')).drewN q) (Says (.int .i64 (l'.length : Int)) (((wc.setCell ⟨qb, 0, none⟩ (.int .i64 (d : Int))).setCell ⟨qb, 1, none⟩ (.slice A' l'.length c')).drewN q)) := fun q => by
              have := t_len (hst.mine.drewN q).tree
              rwa [List.length_map] at this
            clear hbr hqr hst y0 y1 ylt x0 x1 x2 x3 x4 hdo1 hdo2 cl
            generalize hw' : (wc.setCell ⟨qb, 0, none⟩ (.int .i64 (d : Int))).setCell ⟨qb, 1, none⟩ (.slice A' l'.length c') = w' at *
            have HW' := Lib.hid hw'
            clear hw'
            have hne : ((l'.length : Int) != (l'.length : Int)) = false := by simp
            generalize l'.length = ln' at *
            go_wp2_with fail
            rw [HW'.out]
            go_quiet ((go_at_call 15; refine Calls.quiet_of (hlen _)))
            go_wp2_with fail
            go_roundg (n0 - (i + 1))
            case measure => omega
            case rel => exact ⟨i + 1, F', A', c', l', by omega, Nat.le_refl _, by go_num, Lib.hid (HEND.out.below (below_drewN (Below.refl _ w') _))⟩
        · have h150z : ¬ (i : Int) < 150 := by omega
          have hpa : Calls Try.prog 17 #[.pointer (some ⟨t, 0, none⟩)] wr.drew (PtsPost (l.map bareP) wr.drew) := t_pts (HT.out.mine.drewN 1).tree
          have y1 := HT.out.row.cell (j := 1) rfl
          have ylt := HT.out.row.lt
          have hll : l.length ≤ 512 := by have := HT.out.mine.tree.len; simpa using this
          obtain ⟨ln, hln⟩ : ∃ ln, ln = l.length := ⟨_, rfl⟩
          rw [← hln] at y1
          have HX := Lib.hid (show ∀ (w13 : World) (A13 : Option Addr) (n13 c13 : Nat) (L13 : List Pt), Pts w13 w13.heap.size A13 n13 L13 → n13 ≤ 512 → L13.map bareP = l.map bareP → Below wr.drew.heap.size wr.drew w13 → (Calls Try.prog 16 #[.slice A13 n13 c13, .slice A ln c] w13 (fun e w' => e = .returned (.bool true) ∧ Below w.heap.size w w' ∧ w'.cell? ⟨qb, 1, none⟩ = some (.slice A ln c))) ∧ w13.cell? ⟨qb, 1, none⟩ = some (.slice A ln c) from fun w13 A13 n13 c13 L13 h1 h2 h3 h4 => by
            have hb : Below wr.heap.size wr w13 := (show Below wr.heap.size wr wr.drew from below_drewN (Below.refl _ wr) 1).trans (show Below wr.heap.size wr.drew w13 from h4)
            have hst := HT.out.below hb
            have hc1 : w13.cell? ⟨qb, 1, none⟩ = some (.slice A ln c) := by rw [hln]; exact hst.row.cell (j := 1) rfl
            refine ⟨?_, hc1⟩
            rw [hln]
            refine (q8same_any A13 A n13 l.length c13 c _ _ L13 l w13 h1 (DocW.toPts hst.doc) (Nat.le_refl _) (Nat.le_refl _) (by omega) h3).mono ?_
            rintro e w' ⟨he, q, rfl⟩
            exact ⟨he, (hst.mine.drewN q).below, by rw [← hln]; exact hc1⟩)
          have HY := Lib.hid (show ∀ w14 : World, Below w.heap.size w w14 → w14.cell? ⟨qb, 1, none⟩ = some (.slice A ln c) → Calls Try.prog 13 #[] w14 (fun e w' => e = .returned (.bool true) ∧ Below w.heap.size w w' ∧ w'.cell? ⟨qb, 1, none⟩ = some (.slice A ln c)) from fun w14 h1 h2 => (HAW.out w14).mono (fun e w' hpost => ⟨hpost.1, h1.trans (hpost.2.mono h1.size), (hpost.2.cell (p := ⟨qb, 1, none⟩) (lt_of_cell h2)).trans h2⟩))
          clear hln hll
          go_wp2_with fail
          go_region_held3 (fun w' => w'.cell? ⟨qb, 1, none⟩ = some (.slice A ln c)) (first | exact HS10.out | exact HS9.out | exact HS8.out | exact y1 | go_keep)
            (first
              | (go_at_call 17; with_reducible refine hpa.mono ?_; intro e w13 hpost; unfold PtsPost at hpost; obtain ⟨A13, n13, c13, L13, rfl, P13, hm13, hL13, hb13⟩ := hpost; have HPO := Lib.hid (HX.out w13 A13 n13 c13 L13 P13 hm13 hL13 hb13); have hsm := HPO.out.1; have HS8 := Lib.hid HPO.out.2; clear P13 hm13 hL13 hb13)
              | (go_at_call 16; with_reducible refine hsm.mono ?_; intro e w14 hpost; obtain ⟨rfl, hb14, hs14⟩ := hpost; have haw := HY.out w14 hb14 hs14; have HS9 := Lib.hid hs14; clear hb14 hs14)
              | (go_at_call 13; with_reducible refine haw.mono ?_; intro e w15 hpost; obtain ⟨rfl, hb15, hs15⟩ := hpost; have HB15 := Lib.hid hb15; have HS10 := Lib.hid hs15; clear hb15 hs15))
          all_goals
            go_wp2_with fail
            go_ret
            exact ⟨rfl, HB15.out⟩
      · have hltz : ¬ (i : Int) < (n0 : Int) := by omega
        have hpa : Calls Try.prog 17 #[.pointer (some ⟨t, 0, none⟩)] wr.drew (PtsPost (l.map bareP) wr.drew) := t_pts (HT.out.mine.drewN 1).tree
        have y1 := HT.out.row.cell (j := 1) rfl
        have ylt := HT.out.row.lt
        have hll : l.length ≤ 512 := by have := HT.out.mine.tree.len; simpa using this
        obtain ⟨ln, hln⟩ : ∃ ln, ln = l.length := ⟨_, rfl⟩
        rw [← hln] at y1
        have HX := Lib.hid (show ∀ (w13 : World) (A13 : Option Addr) (n13 c13 : Nat) (L13 : List Pt), Pts w13 w13.heap.size A13 n13 L13 → n13 ≤ 512 → L13.map bareP = l.map bareP → Below wr.drew.heap.size wr.drew w13 → (Calls Try.prog 16 #[.slice A13 n13 c13, .slice A ln c] w13 (fun e w' => e = .returned (.bool true) ∧ Below w.heap.size w w' ∧ w'.cell? ⟨qb, 1, none⟩ = some (.slice A ln c))) ∧ w13.cell? ⟨qb, 1, none⟩ = some (.slice A ln c) from fun w13 A13 n13 c13 L13 h1 h2 h3 h4 => by
          have hb : Below wr.heap.size wr w13 := (show Below wr.heap.size wr wr.drew from below_drewN (Below.refl _ wr) 1).trans (show Below wr.heap.size wr.drew w13 from h4)
          have hst := HT.out.below hb
          have hc1 : w13.cell? ⟨qb, 1, none⟩ = some (.slice A ln c) := by rw [hln]; exact hst.row.cell (j := 1) rfl
          refine ⟨?_, hc1⟩
          rw [hln]
          refine (q8same_any A13 A n13 l.length c13 c _ _ L13 l w13 h1 (DocW.toPts hst.doc) (Nat.le_refl _) (Nat.le_refl _) (by omega) h3).mono ?_
          rintro e w' ⟨he, q, rfl⟩
          exact ⟨he, (hst.mine.drewN q).below, by rw [← hln]; exact hc1⟩)
        have HY := Lib.hid (show ∀ w14 : World, Below w.heap.size w w14 → w14.cell? ⟨qb, 1, none⟩ = some (.slice A ln c) → Calls Try.prog 13 #[] w14 (fun e w' => e = .returned (.bool true) ∧ Below w.heap.size w w' ∧ w'.cell? ⟨qb, 1, none⟩ = some (.slice A ln c)) from fun w14 h1 h2 => (HAW.out w14).mono (fun e w' hpost => ⟨hpost.1, h1.trans (hpost.2.mono h1.size), (hpost.2.cell (p := ⟨qb, 1, none⟩) (lt_of_cell h2)).trans h2⟩))
        clear hln hll
        go_wp2_with fail
        go_region_held3 (fun w' => w'.cell? ⟨qb, 1, none⟩ = some (.slice A ln c)) (first | exact HS10.out | exact HS9.out | exact HS8.out | exact y1 | go_keep)
          (first
            | (go_at_call 17; with_reducible refine hpa.mono ?_; intro e w13 hpost; unfold PtsPost at hpost; obtain ⟨A13, n13, c13, L13, rfl, P13, hm13, hL13, hb13⟩ := hpost; have HPO := Lib.hid (HX.out w13 A13 n13 c13 L13 P13 hm13 hL13 hb13); have hsm := HPO.out.1; have HS8 := Lib.hid HPO.out.2; clear P13 hm13 hL13 hb13)
            | (go_at_call 16; with_reducible refine hsm.mono ?_; intro e w14 hpost; obtain ⟨rfl, hb14, hs14⟩ := hpost; have haw := HY.out w14 hb14 hs14; have HS9 := Lib.hid hs14; clear hb14 hs14)
            | (go_at_call 13; with_reducible refine haw.mono ?_; intro e w15 hpost; obtain ⟨rfl, hb15, hs15⟩ := hpost; have HB15 := Lib.hid hb15; have HS10 := Lib.hid hs15; clear hb15 hs15))
        all_goals
          go_wp2_with fail
          go_ret
          exact ⟨rfl, HB15.out⟩
  · have hz : z < 1 ∨ 16 < z := by omega
    have hnew := vnew_no z w hz
    have hrn := rnew8_no z w hz
    have en := tpneq_nil
    have ee := tpeql_nil
    clear hz hd
    go_enter Try.func3, Try.ntmps3
    go_wp2_with fail
    refine hnew.mono ?_
    rintro e w2 ⟨rfl, rfl⟩
    go_wp2_with fail
    refine hrn.mono ?_
    rintro e w3 ⟨rfl, hb3⟩
    go_wp2_with fail
    refine (HAW.out _).mono ?_
    rintro e w4 ⟨rfl, hb4⟩
    go_wp2_with fail
    go_ret
    exact ⟨rfl, hb3.trans (((Below.refl _ w3).alloc (Nat.le_refl _) _).trans (hb4.mono (by simp)) |>.mono hb3.size)⟩
end Go.Proofs.Ytkgapieikgniiaa
