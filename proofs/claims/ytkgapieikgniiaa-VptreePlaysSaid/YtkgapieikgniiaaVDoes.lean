/- What does of the laws returns: each call answers as the document's. Conditions: both trees, and the point, lie in memory. -/
import Derived.Test.YtkgapieikgniiaaVNearL
import Derived.Test.YtkgapieikgniiaaVDocD
set_option linter.unusedVariables false
set_option linter.unusedSimpArgs false
namespace Go.Proofs.Ytkgapieikgniiaa
open Go Go.RowKit Go.Maps
/-- A point beside a tree of the program's. -/
def PtBy (w : World) (G : Nat → Prop) (p : Pt) : Prop := PtIn w (fun b => b < w.heap.size ∧ ¬ G b) p
section
variable {w w' : World} {F F' G E : Nat → Prop} {A : Option Addr} {c X : Nat} {l : List Pt} {p : Pt}
theorem PtBy.below (h : PtBy w G p) (hb : Below w.heap.size w w') : PtBy w' G p := (PtIn.keep h (fun b hP => hb.block b hP.1)).more (fun b hP => ⟨Nat.lt_of_lt_of_le hP.1 hb.size, hP.2⟩)
theorem PtBy.turn (h : PtBy w (fun b => F b ∨ E b) p) (k : Turn F w F' w') : PtBy w' (fun b => F' b ∨ E b) p :=
  (PtIn.keep h (fun b hP => k.block b hP.1 (fun hf => hP.2 (.inl hf)))).more (fun b hP => ⟨Nat.lt_of_lt_of_le hP.1 k.size, fun hg => hg.elim (fun hf => (k.foot b hf).elim (fun h1 => hP.2 (.inl h1)) (fun h1 => by omega)) (fun he => hP.2 (.inr he))⟩)
theorem PtBy.box (h : PtBy w (fun b => F b ∨ E b) p) (hb : Below w.heap.size w w') (hX : w.heap.size ≤ X) : PtBy w' (fun b => F b ∨ (E b ∨ b = X)) p :=
  (PtIn.keep h (fun b hP => hb.block b hP.1)).more (fun b hP => ⟨Nat.lt_of_lt_of_le hP.1 hb.size, fun hg => hg.elim (fun hf => hP.2 (.inl hf)) (fun he => he.elim (fun h1 => hP.2 (.inr h1)) (fun e => by omega))⟩)
theorem DocIn.turnE (h : DocIn w (fun b => F b ∨ E b) A c l) (k : Turn F w F' w') : DocIn w' (fun b => F' b ∨ E b) A c l :=
  (DocW.keep h (fun b hP => k.block b hP.1 (fun hf => hP.2 (.inl hf))) k.size).more (fun b hP => ⟨Nat.lt_of_lt_of_le hP.1 k.size, fun hg => hg.elim (fun hf => (k.foot b hf).elim (fun h1 => hP.2 (.inl h1)) (fun h1 => by omega)) (fun he => hP.2 (.inr he))⟩) (fun b hP => hP.1)
theorem DocIn.box (h : DocIn w (fun b => F b ∨ E b) A c l) (hb : Below w.heap.size w w') (hX : w.heap.size ≤ X) : DocIn w' (fun b => F b ∨ (E b ∨ b = X)) A c l :=
  (DocW.keep h (fun b hP => hb.block b hP.1) hb.size).more (fun b hP => ⟨Nat.lt_of_lt_of_le hP.1 hb.size, fun hg => hg.elim (fun hf => hP.2 (.inl hf)) (fun he => he.elim (fun h1 => hP.2 (.inr h1)) (fun e => by omega))⟩) (fun b hP => hP.1)
end
def DoesPost (E : Nat → Prop) (b0 : Nat) (w0 : World) (F : Nat → Prop) (t dim : Nat) (w : World) (e : Ending) (w' : World) : Prop :=
  ∃ (F' : Nat → Prop) (A' : Option Addr) (c' : Nat) (l' : List Pt), e = .returned (.tuple #[.agg #[.int .i64 (dim : Int), .slice A' l'.length c'], .bool true]) ∧ Mine b0 w0 w' F' t dim (l'.map bareP) ∧ DocIn w' (fun b => F' b ∨ E b) A' c' l' ∧ Turn F w F' w'
/-- Behind the calls: the answer is written, and handed back. -/
theorem does_end {E F F' : Nat → Prop} {b0 t dim X c' : Nat} {w0 w V : World} {A' : Option Addr} {l' : List Pt} {r0 r1 : Value} (hM : Mine b0 w0 V F' t dim (l'.map bareP)) (hD : DocIn V (fun b => F' b ∨ (E b ∨ b = X)) A' c' l') (hT : Turn F w F' V) (hX : ¬ F' X) (hr : Row V X 29 [r0, r1]) (hw : w.heap.size ≤ X) (hb0 : b0 ≤ X) :
    Row ((V.setCell ⟨X, 0, none⟩ (.int .i64 (dim : Int))).setCell ⟨X, 1, none⟩ (.slice A' l'.length c')) X 29 [.int .i64 (dim : Int), .slice A' l'.length c'] ∧
    DoesPost E b0 w0 F t dim w (.returned (.tuple #[.agg #[.int .i64 (dim : Int), .slice A' l'.length c'], .bool true])) ((V.setCell ⟨X, 0, none⟩ (.int .i64 (dim : Int))).setCell ⟨X, 1, none⟩ (.slice A' l'.length c')) := by
  have hk : ∀ b, b ≠ X → ((V.setCell ⟨X, 0, none⟩ (.int .i64 (dim : Int))).setCell ⟨X, 1, none⟩ (.slice A' l'.length c')).heap[b]? = V.heap[b]? := fun b hb => (heap_set_ne _ _ _ hb).trans (heap_set_ne _ _ _ hb)
  have hTX : Turn (fun b => b = X) V (fun b => b = X) ((V.setCell ⟨X, 0, none⟩ (.int .i64 (dim : Int))).setCell ⟨X, 1, none⟩ (.slice A' l'.length c')) := ⟨rfl, rfl, rfl, by simp, fun b _ hb => hk b hb, fun b hb => .inl hb⟩
  refine ⟨(hr.set 0 _).set 1 _, F', A', c', l', rfl, ⟨hM.tree.turn hTX (fun b hb e => hX (by have e : b = X := e; rw [← e]; exact hb)), hM.up, hM.below.trans (hTX.down (fun b hb => by have e : b = X := hb; omega) hM.le), by have := hM.le; simpa using this⟩, ?_, Turn.setNew (Turn.setNew hT hw _) hw _⟩
  exact (DocW.keep hD (fun b hP => hk b (fun e => hP.2 (.inr (.inr e)))) (by simp)).more (fun b hP => ⟨by simpa using hP.1, fun hg => hP.2 (hg.imp id .inl)⟩) (fun b hP => hP.1)
/-- The boxes of does: the document's tree, the call, the answer. -/
structure EBox (w W : World) (dim : Int) (sl kd x psl kk lm : Value) : Prop where
  b0 : Row W w.heap.size 29 [.int .i64 dim, sl]
  b1 : Row W (w.heap.size + 1) 39 [kd, x, psl, kk, lm]
  b2 : Row W (w.heap.size + 1 + 1) 29 [.int .i64 0, .slice none 0 0]
  below : Below w.heap.size w W
  le : w.heap.size + 3 ≤ W.heap.size
theorem EBox.new (w : World) (dim : Int) (sl kd x psl kk lm : Value) : EBox w (((w.alloc (.cells #[.int .i64 dim, sl] 29)).alloc (.cells #[kd, x, psl, kk, lm] 39)).alloc (.cells #[.int .i64 0, .slice none 0 0] 29)) dim sl kd x psl kk lm := by
  have e1 : (w.alloc (.cells #[.int .i64 dim, sl] 29)).heap.size = w.heap.size + 1 := by simp
  have e2 : ((w.alloc (.cells #[.int .i64 dim, sl] 29)).alloc (.cells #[kd, x, psl, kk, lm] 39)).heap.size = w.heap.size + 1 + 1 := by simp
  refine ⟨?_, ?_, ?_, (((Below.refl _ w).alloc (Nat.le_refl _) _).alloc (by omega) _).alloc (by omega) _, by simp⟩
  · exact ((Row.new w 29 [.int .i64 dim, sl]).keep (heap_alloc_lt _ _ (by omega))).keep (heap_alloc_lt _ _ (by omega))
  · have := Row.new (w.alloc (.cells #[.int .i64 dim, sl] 29)) 39 [kd, x, psl, kk, lm]
    rw [e1] at this
    exact this.keep (heap_alloc_lt _ _ (by omega))
  · have := Row.new ((w.alloc (.cells #[.int .i64 dim, sl] 29)).alloc (.cells #[kd, x, psl, kk, lm] 39)) 29 [.int .i64 0, .slice none 0 0]
    rw [e2] at this
    exact this
theorem EBox.under {w W W' : World} {dim : Int} {sl kd x psl kk lm : Value} (h : EBox w W dim sl kd x psl kk lm) (hb : Below W.heap.size W W') : EBox w W' dim sl kd x psl kk lm :=
  ⟨h.b0.keep (hb.block _ h.b0.lt), h.b1.keep (hb.block _ h.b1.lt), h.b2.keep (hb.block _ h.b2.lt), h.below.trans (hb.mono (by have := h.le; omega)), Nat.le_trans h.le hb.size⟩
theorem EBox.turn {w W W' : World} {dim : Int} {sl kd x psl kk lm : Value} {F F' : Nat → Prop} (h : EBox w W dim sl kd x psl kk lm) (k : Turn F W F' W') (hF : ∀ b, F b → b < w.heap.size) : Row W' w.heap.size 29 [.int .i64 dim, sl] ∧ Row W' (w.heap.size + 1) 39 [kd, x, psl, kk, lm] ∧ Row W' (w.heap.size + 1 + 1) 29 [.int .i64 0, .slice none 0 0] :=
  ⟨h.b0.keep (k.block _ h.b0.lt (fun hf => by have := hF _ hf; omega)), h.b1.keep (k.block _ h.b1.lt (fun hf => by have := hF _ hf; omega)), h.b2.keep (k.block _ h.b2.lt (fun hf => by have := hF _ hf; omega))⟩
theorem PtBy.reads {w : World} {G : Nat → Prop} {p : Pt} (h : PtBy w G p) : Reads w w.heap.size 1 p.2.1.1 p.2.1.2.1 (ints p.2.2) := PtIn.reads h (fun b hP => hP.1)
theorem PtBy.not {w : World} {F E : Nat → Prop} {p : Pt} (h : PtBy w (fun b => F b ∨ E b) p) : 0 < p.2.1.2.1 → ∀ ad, p.2.1.1 = some ad → ¬ F ad.block := fun h0 ad e hF => by
  obtain ⟨a2, e2, hp, _⟩ := PtIn.cells h (by rw [← h.len]; exact h0)
  rw [e] at e2
  injection e2 with e2
  subst e2
  exact hp.2 (.inl hF)
/-- Behind the document's call: its answer in a new box, the answer written. -/
theorem does_fin {E F F' : Nat → Prop} {b0 t dim c' : Nat} {w0 w W w4 w5 : World} {A' : Option Addr} {l' : List Pt} {T' : List Pnt} {r0 r1 : Value} {sl kd x psl kk lm : Value} {A : Option Addr} {c : Nat} {l : List Pt} (hE : ∀ b, E b → b < w.heap.size) (hB : EBox w W (dim : Int) sl kd x psl kk lm) (hF : ∀ b, F b → b < w.heap.size)
    (h4 : Mine b0 w0 w4 F' t dim T' ∧ Turn F W F' w4 ∧ Row w4 (w.heap.size + 1 + 1) 29 [r0, r1] ∧ DocIn w4 (fun b => F' b ∨ (E b ∨ b = w.heap.size + 1 + 1)) A c l ∧ Turn F w F' w4) (hdoc : DocW w5 (NewP (fun b => b < w4.heap.size ∧ ¬ (F' b ∨ (E b ∨ b = w.heap.size + 1 + 1))) w4 w5) A' c' l') (hmap : l'.map bareP = T') (hb5 : Below w4.heap.size w4 w5) (hb0 : b0 ≤ w.heap.size) (o : Obj) :
    DoesPost E b0 w0 F t dim w (.returned (.tuple #[.agg #[.int .i64 (dim : Int), .slice A' l'.length c'], .bool true])) (((w5.alloc o).setCell ⟨w.heap.size + 1 + 1, 0, none⟩ (.int .i64 (dim : Int))).setCell ⟨w.heap.size + 1 + 1, 1, none⟩ (.slice A' l'.length c')) ∧
    Row (w5.alloc o) (w.heap.size + 1 + 1) 29 [r0, r1] ∧
    Row (((w5.alloc o).setCell ⟨w.heap.size + 1 + 1, 0, none⟩ (.int .i64 (dim : Int))).setCell ⟨w.heap.size + 1 + 1, 1, none⟩ (.slice A' l'.length c')) (w.heap.size + 1 + 1) 29 [.int .i64 (dim : Int), .slice A' l'.length c'] := by
  obtain ⟨M4, K4, r2, _, T4⟩ := h4
  have hle := hB.le
  have hs4 := K4.size
  have hfl : ∀ b, (F' b ∨ (E b ∨ b = w.heap.size + 1 + 1)) → b < w4.heap.size := fun b hb => hb.elim (M4.tree.lt b) (fun h => h.elim (fun he => by have := hE b he; omega) (fun e => by omega))
  have D5 : DocIn w5 (fun b => F' b ∨ (E b ∨ b = w.heap.size + 1 + 1)) A' c' l' := DocIn.new hdoc hfl hb5.size
  have hs5 := hb5.size
  have ba : Below w5.heap.size w5 (w5.alloc o) := (Below.refl _ w5).alloc (Nat.le_refl _) _
  have r5 : Row (w5.alloc o) (w.heap.size + 1 + 1) 29 [r0, r1] := (r2.keep (hb5.block _ r2.lt)).keep (ba.block _ (by omega))
  have M5 := (M4.under hb5).under ba
  rw [← hmap] at M5
  have hX : ¬ F' (w.heap.size + 1 + 1) := fun h => (K4.foot _ h).elim (fun h1 => by have := hF _ h1; omega) (fun h1 => by omega)
  obtain ⟨e1, e2⟩ := does_end M5 (D5.below ba) ((T4.trans (Turn.below F' hb5)).trans (Turn.below F' ba)) hX r5 (by omega) (by omega)
  exact ⟨e2, r5, e1⟩
section
variable {E F : Nat → Prop} {b0 t dim c : Nat} {w0 w : World} {A : Option Addr} {l : List Pt} {p : Pt}
set_option maxHeartbeats 8000000 in
set_option maxRecDepth 100000 in
theorem does_put (hE : ∀ b, E b → b < w.heap.size) (hM : Mine b0 w0 w F t dim (l.map bareP)) (hD : DocIn w (fun b => F b ∨ E b) A c l) (hp : PtBy w (fun b => F b ∨ E b) p) (kk lm : Int) :
    Calls Try.prog 14 #[.pointer (some ⟨t, 0, none⟩), .agg #[.int .i64 (dim : Int), .slice A l.length c], .agg #[.int .i64 1, .int .i64 p.1, .slice p.2.1.1 p.2.1.2.1 p.2.1.2.2, .int .i64 kk, .int .i64 lm]] w (DoesPost E b0 w0 F t dim w) := by
  have hB := EBox.new w (dim : Int) (.slice A l.length c) (.int .i64 1) (.int .i64 p.1) (.slice p.2.1.1 p.2.1.2.1 p.2.1.2.2) (.int .i64 kk) (.int .i64 lm)
  generalize hW : ((w.alloc (.cells #[.int .i64 (dim : Int), .slice A l.length c] 29)).alloc (.cells #[.int .i64 1, .int .i64 p.1, .slice p.2.1.1 p.2.1.2.1 p.2.1.2.2, .int .i64 kk, .int .i64 lm] 39)).alloc (.cells #[.int .i64 0, .slice none 0 0] 29) = W at *
  have HW := Lib.hid hW
  clear hW
  have hMW := hM.under hB.below
  have hFlt : ∀ b, F b → b < w.heap.size := hM.tree.lt
  have hDW := hD.box (X := w.heap.size + 1 + 1) hB.below (by omega)
  have hpW := hp.box (X := w.heap.size + 1 + 1) hB.below (by omega)
  have hput := t_put_turn (c := p.2.1.2.2) hMW hp.wf hpW.reads (Nat.le_refl _) (by rw [hp.len]; exact hp.max) hpW.not
  have k0 := hB.b1.cell (j := 0) rfl
  have k1 := hB.b1.cell (j := 1) rfl
  have k2 := hB.b1.cell (j := 2) rfl
  have kl := hB.b1.lt
  have H := Lib.hid (And.intro hM (And.intro hB (And.intro hMW (And.intro hFlt (And.intro hDW (And.intro hpW (And.intro hp hE)))))))
  clear hM hB hMW hFlt hDW hpW hp hD hE
  obtain ⟨PA, hPA⟩ : ∃ PA, PA = putA dim p.1 p.2.2 (l.map bareP) := ⟨_, rfl⟩
  rw [← hPA] at hput
  have HPA := Lib.hid hPA
  clear hPA
  obtain ⟨pb, pe⟩ := PA
  have hbb : (pb == pb) = true := by simp
  have hee : (pe == pe) = true := by simp
  go_enter Try.func14, Try.ntmps14
  go_wp2_with fail
  rw [HW.out]
  refine hput.mono ?_
  rintro e w4 ⟨rfl, F', M4, K4⟩
  obtain ⟨r0, r1, r2⟩ := H.out.2.1.turn K4 H.out.2.2.2.1
  have hD4 := H.out.2.2.2.2.1.turnE K4
  have hp4 := H.out.2.2.2.2.2.1.turn K4
  have hrise : Rise (l.map bareP) := H.out.1.tree.rise
  have hlen : l.length ≤ 512 := by have := H.out.1.tree.len; simpa using this
  have hrp := rput_any (dim := dim) hD4 hrise hlen hp4
  have q0 := r0.cell (j := 0) rfl
  have q1 := r0.cell (j := 1) rfl
  have k1 := r1.cell (j := 1) rfl
  have k2 := r1.cell (j := 2) rfl
  have ql := r0.lt
  have kl := r1.lt
  have H4 := Lib.hid (And.intro M4 (And.intro K4 (And.intro r2 (And.intro hD4 (show Turn F w F' w4 from (Turn.below F H.out.2.1.below).trans K4)))))
  clear M4 K4 r0 r1 r2 hD4 hp4 hrise hlen hput
  generalize l.length = ln at *
  go_wp2_with fail
  refine hrp.mono ?_
  intro e w5 hpost
  unfold RPutPost at hpost
  obtain ⟨A', c', l', rfl, hdoc, hmap, hb5⟩ := hpost
  rw [← HPA.out]
  obtain ⟨hEND, g0, g1⟩ := does_fin H.out.2.2.2.2.2.2.2 H.out.2.1 H.out.2.2.2.1 H4.out hdoc hmap hb5 H.out.1.le (.cells #[.int .i64 (dim : Int), .slice A' l'.length c'] 29)
  have o0 := g0.cell (j := 0) rfl
  have o1 := g0.cell (j := 1) rfl
  have of0 := g0.frozen 0
  have of1 := g0.frozen 1
  have ol := g0.lt
  have z0 := g1.cell (j := 0) rfl
  have z1 := g1.cell (j := 1) rfl
  have HE := Lib.hid hEND
  have HG := Lib.hid (And.intro g0 g1)
  clear hEND hdoc hmap hb5 hrp g0 g1
  dsimp only
  go_wp2_with fail
  refine bodyPost_ret (v := .tuple #[.agg #[.int .i64 (dim : Int), .slice A' l'.length c'], .bool true]) (by simp [results, Try.results14, go_sem, z0, z1]) rfl ?_
  exact HE.out
end
/-- Before the answer is written: the document's tree, `l'`, lies in a box at `nb`. -/
structure Mid (E : Nat → Prop) (b0 : Nat) (w0 : World) (F : Nat → Prop) (t dim : Nat) (w : World) (nb X : Nat) (V : World) (F' : Nat → Prop) (T : List Pnt) (A' : Option Addr) (c' : Nat) (l' : List Pt) (r0 r1 : Value) : Prop where
  mine : Mine b0 w0 V F' t dim T
  doc : DocIn V (fun b => F' b ∨ (E b ∨ b = X)) A' c' l'
  turn : Turn F w F' V
  nF : ¬ F' X
  row : Row V X 29 [r0, r1]
  box : Row V nb 29 [.int .i64 (dim : Int), .slice A' l'.length c']
  nbF : ¬ F' nb
  ne : nb ≠ X
  le : w.heap.size ≤ X
  le0 : b0 ≤ X
/-- Behind it. -/
structure Fin (E : Nat → Prop) (b0 : Nat) (w0 : World) (F : Nat → Prop) (t dim : Nat) (w : World) (X : Nat) (V : World) (F' : Nat → Prop) (T : List Pnt) (A' : Option Addr) (c' : Nat) (l' : List Pt) : Prop where
  mine : Mine b0 w0 V F' t dim T
  doc : DocIn V (fun b => F' b ∨ E b) A' c' l'
  turn : Turn F w F' V
  nF : ¬ F' X
  row : Row V X 29 [.int .i64 (dim : Int), .slice A' l'.length c']
section
variable {E F F' F'' : Nat → Prop} {b0 t dim c c' nb X : Nat} {w0 w V V' : World} {A A' : Option Addr} {l l' : List Pt} {T T'' : List Pnt} {r0 r1 : Value}
theorem Mid.step (h : Mid E b0 w0 F t dim w nb X V F' T A' c' l' r0 r1) (k : Turn F' V F'' V') (ht : Tree V' F'' t dim T'') : Mid E b0 w0 F t dim w nb X V' F'' T'' A' c' l' r0 r1 :=
  ⟨h.mine.turn ht k, h.doc.turnE k, h.turn.trans k, fun hf => (k.foot _ hf).elim h.nF (fun h1 => by have := h.row.lt; omega), h.row.keep (k.block _ h.row.lt h.nF), h.box.keep (k.block _ h.box.lt h.nbF), fun hf => (k.foot _ hf).elim h.nbF (fun h1 => by have := h.box.lt; omega), h.ne, h.le, h.le0⟩
theorem Fin.step (h : Fin E b0 w0 F t dim w X V F' T A' c' l') (k : Turn F' V F'' V') (ht : Tree V' F'' t dim T'') : Fin E b0 w0 F t dim w X V' F'' T'' A' c' l' :=
  ⟨h.mine.turn ht k, h.doc.turnE k, h.turn.trans k, fun hf => (k.foot _ hf).elim h.nF (fun h1 => by have := h.row.lt; omega), h.row.keep (k.block _ h.row.lt h.nF)⟩
theorem Mid.drew (h : Mid E b0 w0 F t dim w nb X V F' T A' c' l' r0 r1) (q : Nat) : Mid E b0 w0 F t dim w nb X (V.drewN q) F' T A' c' l' r0 r1 := h.step (Turn.drewN F' V q) (h.mine.drewN q).tree
theorem Fin.drew (h : Fin E b0 w0 F t dim w X V F' T A' c' l') (q : Nat) : Fin E b0 w0 F t dim w X (V.drewN q) F' T A' c' l' := h.step (Turn.drewN F' V q) (h.mine.drewN q).tree
theorem Mid.turnX (X : Nat) (V : World) (u v : Value) : Turn (fun b => b = X) V (fun b => b = X) ((V.setCell ⟨X, 0, none⟩ u).setCell ⟨X, 1, none⟩ v) :=
  ⟨rfl, rfl, rfl, by simp, fun b _ hb => (heap_set_ne _ _ _ hb).trans (heap_set_ne _ _ _ hb), fun b hb => .inl hb⟩
theorem Mid.store (h : Mid E b0 w0 F t dim w nb X V F' T A' c' l' r0 r1) : Fin E b0 w0 F t dim w X ((V.setCell ⟨X, 0, none⟩ (.int .i64 (dim : Int))).setCell ⟨X, 1, none⟩ (.slice A' l'.length c')) F' T A' c' l' := by
  have hTX := Mid.turnX X V (.int .i64 (dim : Int)) (.slice A' l'.length c')
  refine ⟨⟨h.mine.tree.turn hTX (fun b hb e => h.nF (by have e : b = X := e; rw [← e]; exact hb)), h.mine.up, h.mine.below.trans (hTX.down (fun b hb => by have e : b = X := hb; have := h.le0; omega) h.mine.le), by have := h.mine.le; simpa using this⟩, ?_, Turn.setNew (Turn.setNew h.turn h.le _) h.le _, h.nF, (h.row.set 0 _).set 1 _⟩
  exact (DocW.keep h.doc (fun b hP => hTX.block b hP.1 (fun e => hP.2 (.inr (.inr e)))) (by simp)).more (fun b hP => ⟨by simpa using hP.1, fun hg => hP.2 (hg.imp id .inl)⟩) (fun b hP => hP.1)
theorem Fin.post (h : Fin E b0 w0 F t dim w X V F' (l'.map bareP) A' c' l') : DoesPost E b0 w0 F t dim w (.returned (.tuple #[.agg #[.int .i64 (dim : Int), .slice A' l'.length c'], .bool true])) V :=
  ⟨F', A', c', l', rfl, h.mine, h.doc, h.turn⟩
/-- What a walk through the last region asks of a world before the answer is written. -/
structure Say (V : World) (nb X dim : Nat) (sl r0 r1 : Value) : Prop where
  b0 : V.cell? ⟨nb, 0, none⟩ = some (.int .i64 (dim : Int))
  b1 : V.cell? ⟨nb, 1, none⟩ = some sl
  bl : nb < V.heap.size
  x0 : V.cell? ⟨X, 0, none⟩ = some r0
  x1 : V.cell? ⟨X, 1, none⟩ = some r1
  f0 : V.frozen? ⟨X, 0, none⟩ = false
  f1 : V.frozen? ⟨X, 1, none⟩ = false
  xl : X < V.heap.size
theorem Mid.say (h : Mid E b0 w0 F t dim w nb X V F' T A' c' l' r0 r1) : Say V nb X dim (.slice A' l'.length c') r0 r1 :=
  ⟨h.box.cell (j := 0) rfl, h.box.cell (j := 1) rfl, h.box.lt, h.row.cell (j := 0) rfl, h.row.cell (j := 1) rfl, h.row.frozen 0, h.row.frozen 1, h.row.lt⟩
theorem Fin.cells (h : Fin E b0 w0 F t dim w X V F' T A' c' l') : V.cell? ⟨X, 0, none⟩ = some (.int .i64 (dim : Int)) ∧ V.cell? ⟨X, 1, none⟩ = some (.slice A' l'.length c') := ⟨h.row.cell (j := 0) rfl, h.row.cell (j := 1) rfl⟩
theorem keep_set {n1 n2 X : Nat} {z0 z1 z2 : Value} (h1 : n1 ≠ X) (h2 : n2 ≠ X) (W : World) (u v : Value) (h : W.cell? ⟨n1, 0, none⟩ = some z0 ∧ W.cell? ⟨n1, 1, none⟩ = some z1 ∧ W.cell? ⟨n2, 1, none⟩ = some z2) :
    ((W.setCell ⟨X, 0, none⟩ u).setCell ⟨X, 1, none⟩ v).cell? ⟨n1, 0, none⟩ = some z0 ∧ ((W.setCell ⟨X, 0, none⟩ u).setCell ⟨X, 1, none⟩ v).cell? ⟨n1, 1, none⟩ = some z1 ∧ ((W.setCell ⟨X, 0, none⟩ u).setCell ⟨X, 1, none⟩ v).cell? ⟨n2, 1, none⟩ = some z2 := by
  have e : ∀ (a : Addr), a.block ≠ X → ((W.setCell ⟨X, 0, none⟩ u).setCell ⟨X, 1, none⟩ v).cell? a = W.cell? a := fun a ha => by
    rw [World.cell?_setCell_other _ _ _ _ (fun e => by subst e; exact ha rfl), World.cell?_setCell_other _ _ _ _ (fun e => by subst e; exact ha rfl)]
  exact ⟨(e ⟨n1, 0, none⟩ h1).trans h.1, (e ⟨n1, 1, none⟩ h1).trans h.2.1, (e ⟨n2, 1, none⟩ h2).trans h.2.2⟩
theorem keep_set2 {n1 X : Nat} {z0 z1 : Value} (h1 : n1 ≠ X) (W : World) (u v : Value) (h : W.cell? ⟨n1, 0, none⟩ = some z0 ∧ W.cell? ⟨n1, 1, none⟩ = some z1) :
    ((W.setCell ⟨X, 0, none⟩ u).setCell ⟨X, 1, none⟩ v).cell? ⟨n1, 0, none⟩ = some z0 ∧ ((W.setCell ⟨X, 0, none⟩ u).setCell ⟨X, 1, none⟩ v).cell? ⟨n1, 1, none⟩ = some z1 :=
  have e : ∀ (a : Addr), a.block ≠ X → ((W.setCell ⟨X, 0, none⟩ u).setCell ⟨X, 1, none⟩ v).cell? a = W.cell? a := fun a ha => by
    rw [World.cell?_setCell_other _ _ _ _ (fun e => by subst e; exact ha rfl), World.cell?_setCell_other _ _ _ _ (fun e => by subst e; exact ha rfl)]
  ⟨(e ⟨n1, 0, none⟩ h1).trans h.1, (e ⟨n1, 1, none⟩ h1).trans h.2⟩
/-- Behind a document's call: a new box. -/
theorem mid_new {W w4 w5 : World} {T' : List Pnt} {sl kd x psl kk lm : Value} (hE : ∀ b, E b → b < w.heap.size) (hB : EBox w W (dim : Int) sl kd x psl kk lm) (hF : ∀ b, F b → b < w.heap.size)
    (M4 : Mine b0 w0 w4 F' t dim T') (K4 : Turn F W F' w4) (r2 : Row w4 (w.heap.size + 1 + 1) 29 [r0, r1]) (T4 : Turn F w F' w4) (hdoc : DocW w5 (NewP (fun b => b < w4.heap.size ∧ ¬ (F' b ∨ (E b ∨ b = w.heap.size + 1 + 1))) w4 w5) A' c' l') (hb5 : Below w4.heap.size w4 w5) (hb0 : b0 ≤ w.heap.size) :
    Mid E b0 w0 F t dim w w5.heap.size (w.heap.size + 1 + 1) (w5.alloc (.cells #[.int .i64 (dim : Int), .slice A' l'.length c'] 29)) F' T' A' c' l' r0 r1 := by
  have hle := hB.le
  have hs4 := K4.size
  have hfl : ∀ b, (F' b ∨ (E b ∨ b = w.heap.size + 1 + 1)) → b < w4.heap.size := fun b hb => hb.elim (M4.tree.lt b) (fun h => h.elim (fun he => by have := hE b he; omega) (fun e => by omega))
  have D5 : DocIn w5 (fun b => F' b ∨ (E b ∨ b = w.heap.size + 1 + 1)) A' c' l' := DocIn.new hdoc hfl hb5.size
  have hs5 := hb5.size
  have ba : Below w5.heap.size w5 (w5.alloc (.cells #[.int .i64 (dim : Int), .slice A' l'.length c'] 29)) := (Below.refl _ w5).alloc (Nat.le_refl _) _
  have hX : ¬ F' (w.heap.size + 1 + 1) := fun h => (K4.foot _ h).elim (fun h1 => by have := hF _ h1; omega) (fun h1 => by omega)
  exact ⟨(M4.under hb5).under ba, D5.below ba, (T4.trans (Turn.below F' hb5)).trans (Turn.below F' ba), hX, (r2.keep (hb5.block _ r2.lt)).keep (ba.block _ (by omega)), Row.new w5 _ [.int .i64 (dim : Int), .slice A' l'.length c'], fun hf => by have := M4.tree.lt _ hf; omega, by omega, by omega, by omega⟩
end
section
variable {E F : Nat → Prop} {b0 t dim c : Nat} {w0 w : World} {A : Option Addr} {l : List Pt} {p : Pt}
set_option maxHeartbeats 8000000 in
set_option maxRecDepth 100000 in
theorem does_drop (hE : ∀ b, E b → b < w.heap.size) (hM : Mine b0 w0 w F t dim (l.map bareP)) (hD : DocIn w (fun b => F b ∨ E b) A c l) (hp : (Lit.int .i64 p.1).wf = true) (psl : Value) (kk lm : Int) :
    Calls Try.prog 14 #[.pointer (some ⟨t, 0, none⟩), .agg #[.int .i64 (dim : Int), .slice A l.length c], .agg #[.int .i64 2, .int .i64 p.1, psl, .int .i64 kk, .int .i64 lm]] w (DoesPost E b0 w0 F t dim w) := by
  have hB := EBox.new w (dim : Int) (.slice A l.length c) (.int .i64 2) (.int .i64 p.1) psl (.int .i64 kk) (.int .i64 lm)
  generalize hW : ((w.alloc (.cells #[.int .i64 (dim : Int), .slice A l.length c] 29)).alloc (.cells #[.int .i64 2, .int .i64 p.1, psl, .int .i64 kk, .int .i64 lm] 39)).alloc (.cells #[.int .i64 0, .slice none 0 0] 29) = W at *
  have HW := Lib.hid hW
  clear hW
  have hMW := hM.under hB.below
  have hFlt : ∀ b, F b → b < w.heap.size := hM.tree.lt
  have hDW := hD.box (X := w.heap.size + 1 + 1) hB.below (by omega)
  have hrise : Rise (l.map bareP) := hM.tree.rise
  have hlen : l.length ≤ 512 := by have := hM.tree.len; simpa using this
  have hrd := rdrop_any (dim := dim) hDW hrise hlen p.1
  have k0 := hB.b1.cell (j := 0) rfl
  have k1 := hB.b1.cell (j := 1) rfl
  have kl := hB.b1.lt
  have q0 := hB.b0.cell (j := 0) rfl
  have q1 := hB.b0.cell (j := 1) rfl
  have ql := hB.b0.lt
  have H := Lib.hid (And.intro hM (And.intro hB (And.intro hMW (And.intro hFlt (And.intro hE hp)))))
  clear hM hB hMW hFlt hDW hp hD hrise hlen hE
  generalize l.length = ln at *
  go_enter Try.func14, Try.ntmps14
  go_wp2_with fail
  rw [HW.out]
  refine hrd.mono ?_
  intro e w5 hpost
  unfold RDropPost at hpost
  obtain ⟨A', c', l', rfl, hdoc, hmap, hb5⟩ := hpost
  have hmid := mid_new H.out.2.2.2.2.1 H.out.2.1 H.out.2.2.2.1 H.out.2.2.1 (Turn.below F (Below.refl _ W)) H.out.2.1.b2 (Turn.below F H.out.2.1.below) hdoc hb5 H.out.1.le
  have k1' := (hb5.cell (p := ⟨w.heap.size + 1, 1, none⟩) kl).trans k1
  have kl' := Nat.lt_of_lt_of_le kl hb5.size
  clear hrd hdoc hb5 k0 k1 kl q0 q1 ql
  have HMAP := Lib.hid hmap
  have HL' := Lib.hid (rfl : l'.length = l'.length)
  have hbox : Row (w5.alloc (.cells #[.int .i64 (dim : Int), .slice A' l'.length c'] 29)) w5.heap.size 29 [.int .i64 (dim : Int), .slice A' l'.length c'] := hmid.box
  have k1'' := ((Below.refl w5.heap.size w5).alloc (Nat.le_refl _) (.cells #[.int .i64 (dim : Int), .slice A' l'.length c'] 29)).cell (p := ⟨w.heap.size + 1, 1, none⟩) kl' |>.trans k1'
  have kl'' : w.heap.size + 1 < (w5.alloc (.cells #[.int .i64 (dim : Int), .slice A' l'.length c'] 29)).heap.size := by simp; omega
  clear k1' hmap
  generalize hln' : l'.length = ln' at *
  have HLN := Lib.hid hln'
  clear hln'
  go_wp2_with fail
  have hvs : w5.heap.size < (w5.alloc (.cells #[.int .i64 (dim : Int), .slice A' ln' c'] 29)).heap.size := by simp
  generalize hV : (w5.alloc (.cells #[.int .i64 (dim : Int), .slice A' ln' c'] 29)) = V at *
  clear hV
  generalize hnb : w5.heap.size = nb at *
  clear hnb kl'
  have hkF : ¬ F (w.heap.size + 1) := fun hf => by have := H.out.2.2.2.1 _ hf; omega
  have HX := Lib.hid (show ∀ w6 : World, Tree w6 F t dim (delT p.1 (l.map bareP)) → Turn F V.drew F w6 → Mid E b0 w0 F t dim w nb (w.heap.size + 1 + 1) w6 F (delT p.1 (l.map bareP)) A' c' l' (.int .i64 0) (.slice none 0 0) ∧ w6.cell? ⟨w.heap.size + 1, 1, none⟩ = some (.int .i64 p.1) from fun w6 h1 h2 => ⟨(hmid.drew 1).step h2 h1, (World.cell?_of_block (h2.block _ kl'' hkF)).trans k1''⟩)
  have hc : Calls Try.prog 25 #[.pointer (some ⟨t, 0, none⟩), .int .i64 p.1] V.drew fun e w' => e = .returned (.bool (hasT p.1 (l.map bareP))) ∧ Tree w' F t dim (delT p.1 (l.map bareP)) ∧ Turn F V.drew F w' := t_drop (hmid.drew 1).mine.tree H.out.2.2.2.2.2
  have c0 := hbox.cell (j := 0) rfl
  have c1 := hbox.cell (j := 1) rfl
  have bl := hbox.lt
  have HKS := Lib.hid (keep_set (n1 := nb) (n2 := w.heap.size + 1) (X := w.heap.size + 1 + 1) (z0 := .int .i64 (dim : Int)) (z1 := .slice A' ln' c') (z2 := .int .i64 p.1) hmid.ne (by omega))
  clear hmid hbox
  generalize hasT p.1 (l.map bareP) = hb at *
  have hbb : (hb == hb) = true := by simp
  go_region_held3 (fun w' => w'.cell? ⟨nb, 0, none⟩ = some (.int .i64 (dim : Int)) ∧ w'.cell? ⟨nb, 1, none⟩ = some (.slice A' ln' c') ∧ w'.cell? ⟨w.heap.size + 1, 1, none⟩ = some (.int .i64 p.1)) (first | exact ⟨c0, c1, k1''⟩ | exact HS6.out | exact HKS.out _ _ _ HS6.out | go_keep)
    (first
      | (go_at_call 25; with_reducible refine hc.mono ?_; intro e w6 hpost; obtain ⟨rfl, ht6, hk6⟩ := hpost; have HM6 := Lib.hid (HX.out w6 ht6 hk6); have hs6 := HM6.out.1.say; rw [HLN.out] at hs6; have o0 := hs6.x0; have o1 := hs6.x1; have of0 := hs6.f0; have of1 := hs6.f1; have ol := hs6.xl; have HS6 := Lib.hid (And.intro hs6.b0 (And.intro hs6.b1 HM6.out.2)); clear ht6 hk6 hs6))
  have hfin := HM6.out.1.store
  rw [← HMAP.out] at hfin
  rw [← HLN.out]
  have HE := Lib.hid hfin.post
  have g0 := hfin.cells.1
  have g1 := hfin.cells.2
  clear hfin
  generalize hV : (w6.setCell ⟨w.heap.size + 1 + 1, 0, none⟩ (.int .i64 (dim : Int))).setCell ⟨w.heap.size + 1 + 1, 1, none⟩ (.slice A' l'.length c') = V9 at *
  go_wp2_with fail
  refine bodyPost_ret (v := .tuple #[.agg #[.int .i64 (dim : Int), .slice A' l'.length c'], .bool true]) (by simp [results, Try.results14, go_sem, g0, g1]) rfl ?_
  exact HE.out
end
/-- What Get says. -/
def GetV (x : Int) (T : List Pnt) (lv : List Int) (er : Int) : Prop := (hasT x T = false ∧ lv = [] ∧ er = 3) ∨ (hasT x T = true ∧ (x, lv) ∈ T ∧ er = 0)
theorem rise_mem {x : Int} {a b : List Int} : ∀ {T : List Pnt}, Rise T → (x, a) ∈ T → (x, b) ∈ T → a = b
  | [], _, h, _ => by simp at h
  | q :: T, hr, h, k => by
    obtain ⟨h1, h2⟩ := List.pairwise_cons.1 hr
    rcases List.mem_cons.1 h with e | h'
    · subst e
      rcases List.mem_cons.1 k with e | k'
      · exact (congrArg Prod.snd e).symm
      · have := h1 _ k'
        simp at this
    · rcases List.mem_cons.1 k with e | k'
      · subst e
        have := h1 _ h'
        simp at this
      · exact rise_mem h2 h' k'
theorem GetV.one {x : Int} {T : List Pnt} {a b : List Int} {e f : Int} (hr : Rise T) (h : GetV x T a e) (k : GetV x T b f) : a = b ∧ e = f := by
  rcases h with ⟨h1, rfl, rfl⟩ | ⟨h1, h2, rfl⟩ <;> rcases k with ⟨k1, rfl, rfl⟩ | ⟨k1, k2, rfl⟩
  · exact ⟨rfl, rfl⟩
  · rw [h1] at k1; simp at k1
  · rw [h1] at k1; simp at k1
  · exact ⟨rise_mem hr h2 k2, rfl⟩
def GetPost (P : World → Nat → Prop) (x : Int) (T : List Pnt) (w : World) (e : Ending) (w' : World) : Prop :=
  ∃ (A1 : Option Addr) (n1 c1 : Nat) (lv : List Int) (er : Int), e = .returned (.tuple #[.slice A1 n1 c1, .int .i64 er]) ∧ PtIn w' (P w') (0, (A1, n1, c1), lv) ∧ Below w.heap.size w w' ∧ GetV x T lv er
theorem PtIn.nil {w : World} {P : Nat → Prop} : PtIn w P (0, (none, 0, 0), []) := ⟨rfl, fun h => by simp at h, by decide, rfl⟩
theorem t_get_all {w : World} {F : Nat → Prop} {t dim : Nat} {T : List Pnt} (h : Tree w F t dim T) {x : Int} (hx : (Lit.int .i64 x).wf = true) :
    Calls Try.prog 24 #[.pointer (some ⟨t, 0, none⟩), .int .i64 x] w (GetPost (fun w' b => w.heap.size ≤ b ∧ b < w'.heap.size) x T w) := by
  cases hh : hasT x T with
  | false =>
    refine (t_get_no h hx hh).mono ?_
    rintro e w' ⟨rfl, q, rfl⟩
    exact ⟨none, 0, 0, [], 3, rfl, PtIn.nil, below_drewN (Below.refl _ w) q, .inl ⟨hh, rfl, rfl⟩⟩
  | true =>
    refine (t_get h hx hh).mono ?_
    rintro e w' ⟨l, v, hm, rfl, ho, hb⟩
    have ho' := ho
    obtain ⟨h1, ⟨rfl, h0⟩ | ⟨g, cap, cur, rfl, hg, hc, hn, hcm, _, _⟩⟩ := ho
    · have : l = [] := List.eq_nil_of_length_eq_zero h0
      subst this
      exact ⟨none, 0, 0, [], 0, rfl, PtIn.nil, hb, .inr ⟨hh, hm, rfl⟩⟩
    · refine ⟨some ⟨g, 0, none⟩, l.length, cap, l, 0, rfl, ⟨rfl, fun _ => ⟨_, rfl, ⟨hg, (Array.getElem?_eq_some_iff.1 hc).1⟩, ho'.cells (g := g) rfl⟩, by show l.length ≤ maxLen; omega, rfl⟩, hb, .inr ⟨hh, hm, rfl⟩⟩
theorem rget_all {w : World} {P : Nat → Prop} {A : Option Addr} {c dim : Nat} {l : List Pt} (h : DocW w P A c l) (hr : Rise (l.map bareP)) (hl : l.length ≤ 512) (x : Int) :
    Calls Try.prog 27 #[.agg #[.int .i64 (dim : Int), .slice A l.length c], .int .i64 x] w (GetPost (fun _ b => P b) x (l.map bareP) w) := by
  refine (rget_any h hr hl x).mono ?_
  rintro e w' ⟨hb, ⟨hh, rfl⟩ | ⟨hh, p, hp, rfl, rfl⟩⟩
  · exact ⟨none, 0, 0, [], 3, rfl, PtIn.nil, hb, .inl ⟨hh, rfl, rfl⟩⟩
  · have hq := (h.below hb).allp p hp
    exact ⟨p.2.1.1, p.2.1.2.1, p.2.1.2.2, p.2.2, 0, rfl, ⟨hq.len, hq.cells, hq.max, rfl⟩, hb, .inr ⟨hh, List.mem_map.2 ⟨p, hp, rfl⟩, rfl⟩⟩
section
variable {E F F' : Nat → Prop} {b0 t dim c : Nat} {w0 w W V : World} {A : Option Addr} {l : List Pt} {p : Pt} {T : List Pnt}
/-- Behind calls that turn nothing: the document's tree as it came. -/
theorem mid_old {kd x psl kk lm : Value} (hB : EBox w W (dim : Int) (.slice A l.length c) kd x psl kk lm) (hF : ∀ b, F b → b < w.heap.size) (hM : Mine b0 w0 w F t dim T) (hD : DocIn w (fun b => F b ∨ E b) A c l) (hb : Below W.heap.size W V) :
    Mid E b0 w0 F t dim w w.heap.size (w.heap.size + 1 + 1) V F T A c l (.int .i64 0) (.slice none 0 0) := by
  have hle := hB.le
  exact ⟨(hM.under hB.below).under hb, (hD.box hB.below (by omega)).below hb, (Turn.below F hB.below).trans (Turn.below F hb), fun h => by have := hF _ h; omega, hB.b2.keep (hb.block _ hB.b2.lt), hB.b0.keep (hb.block _ hB.b0.lt), fun h => by have := hF _ h; omega, by omega, by omega, by have := hM.le; omega⟩
set_option maxHeartbeats 8000000 in
set_option maxRecDepth 100000 in
theorem does_get (hM : Mine b0 w0 w F t dim (l.map bareP)) (hD : DocIn w (fun b => F b ∨ E b) A c l) {x : Int} (hx : (Lit.int .i64 x).wf = true) (psl : Value) (kk lm : Int) :
    Calls Try.prog 14 #[.pointer (some ⟨t, 0, none⟩), .agg #[.int .i64 (dim : Int), .slice A l.length c], .agg #[.int .i64 3, .int .i64 x, psl, .int .i64 kk, .int .i64 lm]] w (DoesPost E b0 w0 F t dim w) := by
  have hB := EBox.new w (dim : Int) (.slice A l.length c) (.int .i64 3) (.int .i64 x) psl (.int .i64 kk) (.int .i64 lm)
  generalize hW : ((w.alloc (.cells #[.int .i64 (dim : Int), .slice A l.length c] 29)).alloc (.cells #[.int .i64 3, .int .i64 x, psl, .int .i64 kk, .int .i64 lm] 39)).alloc (.cells #[.int .i64 0, .slice none 0 0] 29) = W at *
  have hFlt : ∀ b, F b → b < w.heap.size := hM.tree.lt
  have hDW := hD.box (X := w.heap.size + 1 + 1) hB.below (by omega)
  have hrise : Rise (l.map bareP) := hM.tree.rise
  have hlen : l.length ≤ 512 := by have := hM.tree.len; simpa using this
  have hget := t_get_all (hM.under hB.below).tree hx
  have k0 := hB.b1.cell (j := 0) rfl
  have k1 := hB.b1.cell (j := 1) rfl
  have kl := hB.b1.lt
  have q0 := hB.b0.cell (j := 0) rfl
  have q1 := hB.b0.cell (j := 1) rfl
  have ql := hB.b0.lt
  have H := Lib.hid (And.intro hM (And.intro hB (And.intro hFlt (And.intro hD (And.intro hDW (And.intro hrise hlen))))))
  clear hM hB hFlt hDW hD hrise hlen
  obtain ⟨ln, hln⟩ : ∃ ln, ln = l.length := ⟨_, rfl⟩
  rw [← hln] at hW q1 ⊢
  have HLN := Lib.hid hln
  have HW := Lib.hid hW
  clear hln hW
  go_enter Try.func14, Try.ntmps14
  go_wp2_with fail
  rw [HW.out]
  refine hget.mono ?_
  intro e w4 hpost
  unfold GetPost at hpost
  obtain ⟨A1, n1, c1, lv, er, rfl, hP1, hb4, hG1⟩ := hpost
  have hrg := rget_all (dim := dim) (H.out.2.2.2.2.1.below hb4) H.out.2.2.2.2.2.1 H.out.2.2.2.2.2.2 x
  have k1' := (hb4.cell (p := ⟨w.heap.size + 1, 1, none⟩) kl).trans k1
  have kl' := Nat.lt_of_lt_of_le kl hb4.size
  have q0' := (hb4.cell (p := ⟨w.heap.size, 0, none⟩) ql).trans q0
  have q1' := (hb4.cell (p := ⟨w.heap.size, 1, none⟩) ql).trans q1
  have ql' := Nat.lt_of_lt_of_le ql hb4.size
  have H4 := Lib.hid (And.intro hP1 (And.intro hb4 hG1))
  clear hP1 hb4 hG1 hget k0 k1 kl q0 q1 ql
  rw [← HLN.out] at hrg
  go_wp2_with fail
  refine hrg.mono ?_
  intro e w5 hpost
  unfold GetPost at hpost
  obtain ⟨A2, n2, c2, lv2, er2, rfl, hP2, hb5, hG2⟩ := hpost
  obtain ⟨rfl, rfl⟩ := GetV.one H.out.2.2.2.2.2.1 H4.out.2.2 hG2
  have hb45 : Below W.heap.size W w5 := H4.out.2.1.trans (hb5.mono H4.out.2.1.size)
  have hmid := mid_old H.out.2.1 H.out.2.2.1 H.out.1 H.out.2.2.2.1 hb45
  have hr1 : Reads w5.drew w5.heap.size 1 A1 n1 (ints lv) := ((H4.out.1.keep (fun b hP => hb5.block b hP.2)).reads (fun b hP => Nat.lt_of_lt_of_le hP.2 hb5.size)).below (below_drewN (Below.refl _ w5) 1)
  have hr2 : Reads w5.drew w5.heap.size 1 A2 n2 (ints lv) := (hP2.reads (fun b hP => Nat.lt_of_lt_of_le hP.1 hb5.size)).below (below_drewN (Below.refl _ w5) 1)
  have hc := sameInts_any A1 A2 n1 n2 c1 c2 _ _ lv lv w5.drew hr1 hr2 (by have h1 : n1 = lv.length := H4.out.1.len; have h2 : lv.length ≤ maxLen := H4.out.1.max; omega) (by have h1 : n2 = lv.length := hP2.len; have h2 : lv.length ≤ maxLen := hP2.max; omega)
  rw [show decide (lv = lv) = true by simp] at hc
  have HX := Lib.hid (show ∀ w6 : World, (∃ q, w6 = w5.drew.drewN q) → Mid E b0 w0 F t dim w w.heap.size (w.heap.size + 1 + 1) w6 F (l.map bareP) A c l (.int .i64 0) (.slice none 0 0) from fun w6 ⟨q, e⟩ => by rw [e]; exact (hmid.drew 1).drew q)
  have c0 := hmid.say.b0
  have c1' := hmid.say.b1
  have cl := hmid.say.bl
  have hee : (er == er) = true := by simp
  rw [← HLN.out] at c1'
  have HKS := Lib.hid (keep_set2 (n1 := w.heap.size) (X := w.heap.size + 1 + 1) (z0 := .int .i64 (dim : Int)) (z1 := .slice A ln c) (by omega))
  clear hmid hr1 hr2 hb45 hP2 hb5 hG2 k1' kl' q0' q1' ql' hrg
  go_wp2_with fail
  go_region_held3 (fun w' => w'.cell? ⟨w.heap.size, 0, none⟩ = some (.int .i64 (dim : Int)) ∧ w'.cell? ⟨w.heap.size, 1, none⟩ = some (.slice A ln c)) (first | exact ⟨c0, c1'⟩ | exact HS6.out | exact HKS.out _ _ _ HS6.out | go_keep)
    (first
      | (go_at_call 28; with_reducible refine hc.mono ?_; intro e w6 hpost; unfold Says at hpost; obtain ⟨rfl, hq6⟩ := hpost; have HM6 := Lib.hid (HX.out w6 hq6); have hs6 := HM6.out.say; rw [← HLN.out] at hs6; have o0 := hs6.x0; have o1 := hs6.x1; have of0 := hs6.f0; have of1 := hs6.f1; have ol := hs6.xl; have HS6 := Lib.hid (And.intro hs6.b0 hs6.b1); clear hq6 hs6))
  all_goals
    have hfin := HM6.out.store
    rw [HLN.out]
    have HE := Lib.hid hfin.post
    have g0 := hfin.cells.1
    have g1 := hfin.cells.2
    clear hfin
    go_wp2_with fail
    refine bodyPost_ret (v := .tuple #[.agg #[.int .i64 (dim : Int), .slice A l.length c], .bool true]) (by simp [results, Try.results14, go_sem, g0, g1]) rfl ?_
    exact HE.out
set_option maxHeartbeats 8000000 in
set_option maxRecDepth 100000 in
theorem does_top (hM : Mine b0 w0 w F t dim (l.map bareP)) (hD : DocIn w (fun b => F b ∨ E b) A c l) (hp : PtBy w (fun b => F b ∨ E b) p) (kk lm : Int) :
    Calls Try.prog 14 #[.pointer (some ⟨t, 0, none⟩), .agg #[.int .i64 (dim : Int), .slice A l.length c], .agg #[.int .i64 4, .int .i64 p.1, .slice p.2.1.1 p.2.1.2.1 p.2.1.2.2, .int .i64 kk, .int .i64 lm]] w (DoesPost E b0 w0 F t dim w) := by
  have hB := EBox.new w (dim : Int) (.slice A l.length c) (.int .i64 4) (.int .i64 p.1) (.slice p.2.1.1 p.2.1.2.1 p.2.1.2.2) (.int .i64 kk) (.int .i64 lm)
  generalize hW : ((w.alloc (.cells #[.int .i64 (dim : Int), .slice A l.length c] 29)).alloc (.cells #[.int .i64 4, .int .i64 p.1, .slice p.2.1.1 p.2.1.2.1 p.2.1.2.2, .int .i64 kk, .int .i64 lm] 39)).alloc (.cells #[.int .i64 0, .slice none 0 0] 29) = W at *
  have hFlt : ∀ b, F b → b < w.heap.size := hM.tree.lt
  have hDW := hD.box (X := w.heap.size + 1 + 1) hB.below (by omega)
  have hrise : Rise (l.map bareP) := hM.tree.rise
  have hlen : l.length ≤ 512 := by have := hM.tree.len; simpa using this
  have hpR : Reads W W.heap.size 1 p.2.1.1 p.2.1.2.1 (ints p.2.2) := (hp.below hB.below).reads
  have hpm : p.2.1.2.1 ≤ maxLen := by rw [hp.len]; exact hp.max
  have hok : ∀ q ∈ l, okV q.2.2 = true ∧ q.2.2.length = dim := fun q hq => (hM.tree.ok (bareP q) (List.mem_map_of_mem hq)).2
  have hget := t_top_all (c := p.2.1.2.2) (hM.under hB.below).tree hpR (Nat.le_refl _) hpm kk lm
  have k0 := hB.b1.cell (j := 0) rfl
  have k2 := hB.b1.cell (j := 2) rfl
  have k3 := hB.b1.cell (j := 3) rfl
  have k4 := hB.b1.cell (j := 4) rfl
  have kl := hB.b1.lt
  have q0 := hB.b0.cell (j := 0) rfl
  have q1 := hB.b0.cell (j := 1) rfl
  have ql := hB.b0.lt
  have H := Lib.hid (And.intro hM (And.intro hB (And.intro hFlt (And.intro hD (And.intro hDW (And.intro hrise (And.intro hlen (And.intro hpR (And.intro hpm hok)))))))))
  clear hM hB hFlt hDW hD hrise hlen hpR hpm hok hp
  obtain ⟨ln, hln⟩ : ∃ ln, ln = l.length := ⟨_, rfl⟩
  rw [← hln] at hW q1 ⊢
  have HLN := Lib.hid hln
  have HW := Lib.hid hW
  clear hln hW
  go_enter Try.func14, Try.ntmps14
  go_wp2_with fail
  rw [HW.out]
  refine hget.mono ?_
  intro e w4 hpost
  unfold TopXPost at hpost
  obtain ⟨A1, n1, c1, rfl, hR1, hm1, hb4, hf1⟩ := hpost
  have hrg := rtop8_any (dim := dim) (c' := p.2.1.2.2) (H.out.2.2.2.2.1.below hb4) H.out.2.2.2.2.2.1 H.out.2.2.2.2.2.2.1 H.out.2.2.2.2.2.2.2.2.2 ((H.out.2.2.2.2.2.2.2.1.below hb4).more hb4.size) H.out.2.2.2.2.2.2.2.2.1 kk lm
  have k2' := (hb4.cell (p := ⟨w.heap.size + 1, 2, none⟩) kl).trans k2
  have k3' := (hb4.cell (p := ⟨w.heap.size + 1, 3, none⟩) kl).trans k3
  have k4' := (hb4.cell (p := ⟨w.heap.size + 1, 4, none⟩) kl).trans k4
  have kl' := Nat.lt_of_lt_of_le kl hb4.size
  have q0' := (hb4.cell (p := ⟨w.heap.size, 0, none⟩) ql).trans q0
  have q1' := (hb4.cell (p := ⟨w.heap.size, 1, none⟩) ql).trans q1
  have ql' := Nat.lt_of_lt_of_le ql hb4.size
  have H4 := Lib.hid (And.intro hR1 (And.intro hb4 hm1))
  clear hR1 hm1 hb4 hf1 hget k0 k2 k3 k4 kl q0 q1 ql
  rw [← HLN.out] at hrg
  go_wp2_with fail
  refine hrg.mono ?_
  intro e w5 hpost
  unfold TopXPost at hpost
  obtain ⟨A2, n2, c2, rfl, hR2, hm2, hb5, hf2⟩ := hpost
  have hb45 : Below W.heap.size W w5 := H4.out.2.1.trans (hb5.mono H4.out.2.1.size)
  have hmid := mid_old H.out.2.1 H.out.2.2.1 H.out.1 H.out.2.2.2.1 hb45
  have hr1 : Reads w5.drew w4.heap.size 2 A1 n1 (hits (topX (l.map bareP) dim p.2.2 kk lm)) := (H4.out.1.below hb5).below (below_drewN ((Below.refl _ w5).mono hb5.size) 1)
  have hr2 : Reads w5.drew w5.heap.size 2 A2 n2 (hits (topX (l.map bareP) dim p.2.2 kk lm)) := hR2.below (below_drewN (Below.refl _ w5) 1)
  have hc := same_any A1 A2 n1 n2 c1 c2 _ _ _ _ w5.drew hr1 hr2 H4.out.2.2 hm2
  rw [show decide (topX (l.map bareP) dim p.2.2 kk lm = topX (l.map bareP) dim p.2.2 kk lm) = true by simp] at hc
  generalize topE dim p.2.2 kk = er at *
  have HX := Lib.hid (show ∀ w6 : World, (∃ q, w6 = w5.drew.drewN q) → Mid E b0 w0 F t dim w w.heap.size (w.heap.size + 1 + 1) w6 F (l.map bareP) A c l (.int .i64 0) (.slice none 0 0) from fun w6 ⟨q, e⟩ => by rw [e]; exact (hmid.drew 1).drew q)
  have c0 := hmid.say.b0
  have c1' := hmid.say.b1
  have cl := hmid.say.bl
  have hee : (er == er) = true := by simp
  rw [← HLN.out] at c1'
  have HKS := Lib.hid (keep_set2 (n1 := w.heap.size) (X := w.heap.size + 1 + 1) (z0 := .int .i64 (dim : Int)) (z1 := .slice A ln c) (by omega))
  clear hmid hr1 hr2 hb45 hR2 hm2 hf2 hb5 k2' k3' k4' kl' q0' q1' ql' hrg
  go_wp2_with fail
  go_region_held3 (fun w' => w'.cell? ⟨w.heap.size, 0, none⟩ = some (.int .i64 (dim : Int)) ∧ w'.cell? ⟨w.heap.size, 1, none⟩ = some (.slice A ln c)) (first | exact ⟨c0, c1'⟩ | exact HS6.out | exact HKS.out _ _ _ HS6.out | go_keep)
    (first
      | (go_at_call 23; with_reducible refine hc.mono ?_; intro e w6 hpost; unfold SaysH at hpost; obtain ⟨rfl, hq6⟩ := hpost; have HM6 := Lib.hid (HX.out w6 hq6); have hs6 := HM6.out.say; rw [← HLN.out] at hs6; have o0 := hs6.x0; have o1 := hs6.x1; have of0 := hs6.f0; have of1 := hs6.f1; have ol := hs6.xl; have HS6 := Lib.hid (And.intro hs6.b0 hs6.b1); clear hq6 hs6))
  all_goals
    have hfin := HM6.out.store
    rw [HLN.out]
    have HE := Lib.hid hfin.post
    have g0 := hfin.cells.1
    have g1 := hfin.cells.2
    clear hfin
    go_wp2_with fail
    refine bodyPost_ret (v := .tuple #[.agg #[.int .i64 (dim : Int), .slice A l.length c], .bool true]) (by simp [results, Try.results14, go_sem, g0, g1]) rfl ?_
    exact HE.out
set_option maxHeartbeats 8000000 in
set_option maxRecDepth 100000 in
theorem does_build (hM : Mine b0 w0 w F t dim (l.map bareP)) (hD : DocIn w (fun b => F b ∨ E b) A c l) {k : Int} (n1 : k ≠ 1) (n2 : k ≠ 2) (n3 : k ≠ 3) (n4 : k ≠ 4) (x : Int) (psl : Value) (kk lm : Int) :
    Calls Try.prog 14 #[.pointer (some ⟨t, 0, none⟩), .agg #[.int .i64 (dim : Int), .slice A l.length c], .agg #[.int .i64 k, .int .i64 x, psl, .int .i64 kk, .int .i64 lm]] w (DoesPost E b0 w0 F t dim w) := by
  have hB := EBox.new w (dim : Int) (.slice A l.length c) (.int .i64 k) (.int .i64 x) psl (.int .i64 kk) (.int .i64 lm)
  generalize hW : ((w.alloc (.cells #[.int .i64 (dim : Int), .slice A l.length c] 29)).alloc (.cells #[.int .i64 k, .int .i64 x, psl, .int .i64 kk, .int .i64 lm] 39)).alloc (.cells #[.int .i64 0, .slice none 0 0] 29) = W at *
  have hFlt : ∀ b, F b → b < w.heap.size := hM.tree.lt
  have hmid := mid_old hB hFlt hM hD (Below.refl _ W)
  have hm1 := (hmid.drew 1)
  have k0 := hB.b1.cell (j := 0) rfl
  have kl := hB.b1.lt
  have c0 := hmid.say.b0
  have c1 := hmid.say.b1
  have cl := hmid.say.bl
  have hc : Calls Try.prog 22 #[.pointer (some ⟨t, 0, none⟩)] W.drew fun e w' => e = .returned (.int .i64 0) ∧ ∃ F', Mid E b0 w0 F t dim w w.heap.size (w.heap.size + 1 + 1) w' F' (l.map bareP) A c l (.int .i64 0) (.slice none 0 0) := (t_build hm1.mine.tree).mono fun e w' ⟨he, F', ht, hT⟩ => ⟨he, F', hm1.step hT ht⟩
  obtain ⟨ln, hln⟩ : ∃ ln, ln = l.length := ⟨_, rfl⟩
  rw [← hln] at hW c1 ⊢
  have HLN := Lib.hid hln
  have HW := Lib.hid hW
  have HKS := Lib.hid (keep_set2 (n1 := w.heap.size) (X := w.heap.size + 1 + 1) (z0 := .int .i64 (dim : Int)) (z1 := .slice A ln c) (by omega))
  clear hln hW hmid hm1 hM hD hB hFlt
  have e1 : (k == 1) = false := by simpa using n1
  have e2 : (k == 2) = false := by simpa using n2
  have e3 : (k == 3) = false := by simpa using n3
  have e4 : (k == 4) = false := by simpa using n4
  clear n1 n2 n3 n4
  go_enter Try.func14, Try.ntmps14
  go_wp2_with fail
  rw [HW.out]
  go_region_held3 (fun w' => w'.cell? ⟨w.heap.size, 0, none⟩ = some (.int .i64 (dim : Int)) ∧ w'.cell? ⟨w.heap.size, 1, none⟩ = some (.slice A ln c)) (first | exact ⟨c0, c1⟩ | exact HS6.out | exact HKS.out _ _ _ HS6.out | go_keep)
    (first
      | (go_at_call 22; with_reducible refine hc.mono ?_; intro e w6 hpost; obtain ⟨rfl, F6, hm6⟩ := hpost; have HM6 := Lib.hid hm6; have hs6 := HM6.out.say; rw [← HLN.out] at hs6; have o0 := hs6.x0; have o1 := hs6.x1; have of0 := hs6.f0; have of1 := hs6.f1; have ol := hs6.xl; have HS6 := Lib.hid (And.intro hs6.b0 hs6.b1); clear hm6 hs6))
  all_goals
    have hfin := HM6.out.store
    rw [HLN.out]
    have HE := Lib.hid hfin.post
    have g0 := hfin.cells.1
    have g1 := hfin.cells.2
    clear hfin
    go_wp2_with fail
    refine bodyPost_ret (v := .tuple #[.agg #[.int .i64 (dim : Int), .slice A l.length c], .bool true]) (by simp [results, Try.results14, go_sem, g0, g1]) rfl ?_
    exact HE.out
/-- Every call. -/
theorem does_any (hE : ∀ b, E b → b < w.heap.size) (hM : Mine b0 w0 w F t dim (l.map bareP)) (hD : DocIn w (fun b => F b ∨ E b) A c l) (hp : PtBy w (fun b => F b ∨ E b) p) (k kk lm : Int) :
    Calls Try.prog 14 #[.pointer (some ⟨t, 0, none⟩), .agg #[.int .i64 (dim : Int), .slice A l.length c], .agg #[.int .i64 k, .int .i64 p.1, .slice p.2.1.1 p.2.1.2.1 p.2.1.2.2, .int .i64 kk, .int .i64 lm]] w (DoesPost E b0 w0 F t dim w) := by
  by_cases n1 : k = 1
  · subst n1
    exact does_put hE hM hD hp kk lm
  by_cases n2 : k = 2
  · subst n2
    exact does_drop hE hM hD hp.wf _ kk lm
  by_cases n3 : k = 3
  · subst n3
    exact does_get hM hD hp.wf _ kk lm
  by_cases n4 : k = 4
  · subst n4
    exact does_top hM hD hp kk lm
  exact does_build hM hD n1 n2 n3 n4 _ _ kk lm
end
end Go.Proofs.Ytkgapieikgniiaa
