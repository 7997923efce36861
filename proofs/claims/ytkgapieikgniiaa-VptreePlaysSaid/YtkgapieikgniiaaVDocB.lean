/- What Put of the document's tree returns. Conditions: the tree and the point lie in memory. -/
import Derived.Test.YtkgapieikgniiaaVDocA
import Derived.Test.YtkgapieikgniiaaVLawM
set_option linter.unusedVariables false
set_option linter.unusedSimpArgs false
namespace Go.Proofs.Ytkgapieikgniiaa
open Go Go.RowKit Go.Maps
theorem append_pts {ops : Array Oper} {rest : List Oper} {o : Oper} {a : Act} {Q : Exit → Act → World → Prop} {W : World} (hgd : o.guard = none) (s x : Operand)
    (ho : o.op = .call { callee := .builtin .append, args := #[s, x], argTypes := #[27, 27] })
    (base : Nat) (v : Value) (n : Nat) (L : List Pt) (hs : a.eval s = v) (hown : W.ownsRow base 37 2 v n (pts L)) (B : Nat) (A : Option Addr) (m c : Nat) (M : List Pt) (hx : a.eval x = .slice A m c) (hR : Reads W B 2 A m (pts M))
    (hn : n + m ≤ 1000000) (hbase : base ≤ W.heap.size)
    (h : ∀ v' w', w'.ownsRow base 37 2 v' (n + m) (pts (L ++ M)) → W.grownBy w' v.ownBlock → wpList Try.prog ops Q rest (a.put o.dst v') w') :
    wpList Try.prog ops Q (o :: rest) a W := by
  obtain ⟨i0, hi, hz0, hz1, hz2⟩ := info_parts pt_row
  refine wpList_append_any W hgd s x 27 ho base 37 i0 (.agg #[.int .i64 0, .slice none 0 0]) 2 32 Try.underlying27 hi hz0 hz1 hz2 rfl (by decide) v n (pts L) hs hown B A m c (pts M) hx hR (pts_one M) (by unfold maxLen; omega) (by omega) hbase (fun v' w' h1 h2 _ => ?_)
  refine h v' w' ?_ h2
  rw [pts_app]
  exact h1
/-- What is allowed, and what is new. -/
def NewP (P : Nat → Prop) (w w' : World) (b : Nat) : Prop := P b ∨ (w.heap.size ≤ b ∧ b < w'.heap.size)
theorem newP_lt {P : Nat → Prop} {w w' : World} (h : ∀ b, P b → b < w.heap.size) (hs : w.heap.size ≤ w'.heap.size) : ∀ b, NewP P w w' b → b < w'.heap.size := fun b hb => hb.elim (fun h1 => Nat.lt_of_lt_of_le (h b h1) hs) (fun h1 => h1.2)
def RPutPost (P : Nat → Prop) (dim : Nat) (l : List Pt) (x : Int) (pv : List Int) (w : World) (e : Ending) (w' : World) : Prop :=
  ∃ (A' : Option Addr) (c' : Nat) (l' : List Pt), e = .returned (.tuple #[.agg #[.int .i64 (dim : Int), .slice A' l'.length c'], .bool (putA dim x pv (l.map bareP)).1, .int .i64 (putA dim x pv (l.map bareP)).2]) ∧ DocW w' (NewP P w w') A' c' l' ∧ l'.map bareP = putR dim x pv (l.map bareP) ∧ Below w.heap.size w w'
theorem RPutPost.same {P : Nat → Prop} {dim : Nat} {A : Option Addr} {c : Nat} {l : List Pt} {x : Int} {pv : List Int} {w w' : World} (h : DocW w P A c l) (hb : Below w.heap.size w w') {bo : Bool} {er : Int} (ha : putA dim x pv (l.map bareP) = (bo, er)) (hr : putR dim x pv (l.map bareP) = l.map bareP) :
    RPutPost P dim l x pv w (.returned (.tuple #[.agg #[.int .i64 (dim : Int), .slice A l.length c], .bool bo, .int .i64 er])) w' :=
  ⟨A, c, l, by rw [ha], (h.below hb).more (fun b hP => .inl hP) (newP_lt h.lt hb.size), hr.symm, hb⟩
theorem RPutPost.new {P : Nat → Prop} {dim : Nat} {A A2 : Option Addr} {c c2 n2 base : Nat} {l l2 : List Pt} {x : Int} {pv : List Int} {w w2 w' : World} (h : DocW w P A c l) {b : Bool} {k : Nat} (hp : Plc (l.map bareP) x k b) {p : Pt} (hpb : bareP p = (x, pv)) (hpi : PtIn w P p) (hck : ck pv dim = 0) (hroom : hasT x (l.map bareP) = true ∨ (l.map bareP).length < 512)
    (hl2 : l2 = l.take k ++ [p] ++ l.drop (if b = true then k + 1 else k)) (hn : n2 = l2.length) (ho : w2.ownsRow base 37 2 (.slice A2 n2 c2) n2 (pts l2)) (hbase : w.heap.size ≤ base) (hb : Below w.heap.size w w2) (hb2 : Below w.heap.size w w') (hkeep : ∀ g, base ≤ g → g < w2.heap.size → w'.heap[g]? = w2.heap[g]?) (hs2 : w2.heap.size ≤ w'.heap.size) :
    RPutPost P dim l x pv w (.returned (.tuple #[.agg #[.int .i64 (dim : Int), .slice A2 n2 c2], .bool b, .int .i64 0])) w' := by
  have hbp : hasT x (l.map bareP) = b := hp.has
  refine ⟨A2, c2, l2, ?_, ?_, ?_, hb2⟩
  · unfold putA
    rw [if_pos hck, if_pos hroom, hbp, hn]
  · have ho' : w'.ownsRow base 37 2 (.slice A2 n2 c2) n2 (pts l2) := own_keep ho (fun g hg => hkeep g (ho.lt g hg).1 (ho.lt g hg).2)
    refine DocW.of_own ho' hn (fun q hq => ?_) (newP_lt h.lt hb2.size) (fun g h1 h2 => .inr ⟨by omega, h2⟩)
    have hq' : PtIn w P q := by
      rw [hl2] at hq
      rcases List.mem_append.1 hq with hq | hq
      · rcases List.mem_append.1 hq with hq | hq
        · exact h.allp q (List.mem_of_mem_take hq)
        · rw [List.mem_singleton.1 hq]
          exact hpi
      · exact h.allp q (List.mem_of_mem_drop hq)
    exact (hq'.keep (fun b hP => hb2.block b (h.lt b hP))).more (fun b hP => .inl hP)
  · rw [hl2, List.map_append, List.map_append, List.map_take, List.map_drop]
    unfold putR
    rw [if_pos (show ck pv dim = 0 ∧ (hasT x (l.map bareP) = true ∨ (l.map bareP).length < 512) from ⟨hck, hroom⟩), hp.put pv]
    have e : [p].map bareP = [(x, pv)] := by rw [← hpb]; rfl
    rw [e, List.append_assoc]
    rfl
/-- The boxes of Put: the tree, the point, the answer. -/
structure PBox (w W : World) (dim : Int) (sl : Value) (x : Int) (psl : Value) : Prop where
  b0 : Row W w.heap.size 29 [.int .i64 dim, sl]
  b1 : Row W (w.heap.size + 1) 37 [.int .i64 x, psl]
  b2 : Row W (w.heap.size + 1 + 1) 29 [.int .i64 0, .slice none 0 0]
  below : Below w.heap.size w W
  le : w.heap.size + 3 ≤ W.heap.size
theorem PBox.new (w : World) (dim : Int) (sl : Value) (x : Int) (psl : Value) : PBox w (((w.alloc (.cells #[.int .i64 dim, sl] 29)).alloc (.cells #[.int .i64 x, psl] 37)).alloc (.cells #[.int .i64 0, .slice none 0 0] 29)) dim sl x psl := by
  have e1 : (w.alloc (.cells #[.int .i64 dim, sl] 29)).heap.size = w.heap.size + 1 := by simp
  have e2 : ((w.alloc (.cells #[.int .i64 dim, sl] 29)).alloc (.cells #[.int .i64 x, psl] 37)).heap.size = w.heap.size + 1 + 1 := by simp
  refine ⟨?_, ?_, ?_, (((Below.refl _ w).alloc (Nat.le_refl _) _).alloc (by omega) _).alloc (by omega) _, by simp⟩
  · exact ((Row.new w 29 [.int .i64 dim, sl]).keep (heap_alloc_lt _ _ (by omega))).keep (heap_alloc_lt _ _ (by omega))
  · have := Row.new (w.alloc (.cells #[.int .i64 dim, sl] 29)) 37 [.int .i64 x, psl]
    rw [e1] at this
    exact this.keep (heap_alloc_lt _ _ (by omega))
  · have := Row.new ((w.alloc (.cells #[.int .i64 dim, sl] 29)).alloc (.cells #[.int .i64 x, psl] 37)) 29 [.int .i64 0, .slice none 0 0]
    rw [e2] at this
    exact this
theorem PBox.under {w W W' : World} {dim : Int} {sl : Value} {x : Int} {psl : Value} (h : PBox w W dim sl x psl) {B : Nat} (hb : Below B W W') (hB : w.heap.size + 3 ≤ B) : PBox w W' dim sl x psl :=
  ⟨h.b0.keep (hb.block _ (by omega)), h.b1.keep (hb.block _ (by omega)), h.b2.keep (hb.block _ (by omega)), h.below.trans (hb.mono (by omega)), Nat.le_trans h.le hb.size⟩
set_option maxHeartbeats 4000000 in
set_option maxRecDepth 100000 in
theorem rput_no {w : World} {P : Nat → Prop} {A : Option Addr} {c dim : Nat} {l : List Pt} (h : DocW w P A c l) (hr : Rise (l.map bareP)) (hl : l.length ≤ 512) {p : Pt} (hp : PtIn w P p)
    (hno : ck p.2.2 dim ≠ 0 ∨ (ck p.2.2 dim = 0 ∧ hasT p.1 (l.map bareP) = false ∧ 512 ≤ l.length)) :
    Calls Try.prog 18 #[.agg #[.int .i64 (dim : Int), .slice A l.length c], .agg #[.int .i64 p.1, .slice p.2.1.1 p.2.1.2.1 p.2.1.2.2]] w (RPutPost P dim l p.1 p.2.2 w) := by
  have hB := PBox.new w (dim : Int) (.slice A l.length c) p.1 (.slice p.2.1.1 p.2.1.2.1 p.2.1.2.2)
  generalize hW : ((w.alloc (.cells #[.int .i64 (dim : Int), .slice A l.length c] 29)).alloc (.cells #[.int .i64 p.1, .slice p.2.1.1 p.2.1.2.1 p.2.1.2.2] 37)).alloc (.cells #[.int .i64 0, .slice none 0 0] 29) = W at *
  have HW := Lib.hid hW
  clear hW
  have hck := rcheck_any p.2.1.1 p.2.1.2.1 p.2.1.2.2 w.heap.size p.2.2 (dim : Int) W ((hp.reads h.lt).below hB.below) (by rw [hp.len]; exact hp.max)
  have hcm := h.cm
  unfold maxLen at hcm
  have hnc := h.nc
  have H := Lib.hid (And.intro h (And.intro hr (And.intro hl hp)))
  have HB := Lib.hid hB
  have y0 := hB.b0.cell (j := 0) rfl
  have y1 := hB.b0.cell (j := 1) rfl
  have p0 := hB.b1.cell (j := 0) rfl
  have p1 := hB.b1.cell (j := 1) rfl
  have r0 := hB.b2.cell (j := 0) rfl
  have r1 := hB.b2.cell (j := 1) rfl
  have f0 := hB.b2.frozen 0
  have f1 := hB.b2.frozen 1
  have l0 := hB.b0.lt
  have l1 := hB.b1.lt
  have l2 := hB.b2.lt
  have hs := hB.b2.set 0 (.int .i64 (dim : Int))
  have hs2 := hs.set 1 (.slice A l.length c)
  rcases hno with hno | ⟨hno, hh, hf⟩
  · have h50 : ck p.2.2 dim = 50 := (ck_or _ _).resolve_left hno
    rw [h50] at hck
    have HF := Lib.hid (fun (w' : World) (hb : Below w.heap.size w w') => RPutPost.same (dim := dim) (x := p.1) (pv := p.2.2) H.out.1 hb (bo := false) (er := 50) (by unfold putA; rw [if_neg hno]) (by unfold putR; rw [if_neg (fun hh => hno hh.1)]))
    clear h hr hl hp hno h50 hB
    go_enter Try.func18, Try.ntmps18
    go_wp2_with fail
    rw [HW.out]
    refine hck.mono ?_
    rintro e w1 ⟨rfl, q, rfl⟩
    go_wp2_with fail
    have g0 : (((W.drewN q).setCell ⟨w.heap.size + 1 + 1, 0, none⟩ (.int .i64 (dim : Int))).setCell ⟨w.heap.size + 1 + 1, 1, none⟩ (.slice A l.length c)).cell? ⟨w.heap.size + 1 + 1, 0, none⟩ = some (.int .i64 (dim : Int)) := hs2.cell (j := 0) rfl
    have g1 : (((W.drewN q).setCell ⟨w.heap.size + 1 + 1, 0, none⟩ (.int .i64 (dim : Int))).setCell ⟨w.heap.size + 1 + 1, 1, none⟩ (.slice A l.length c)).cell? ⟨w.heap.size + 1 + 1, 1, none⟩ = some (.slice A l.length c) := hs2.cell (j := 1) rfl
    refine bodyPost_ret (v := .tuple #[.agg #[.int .i64 (dim : Int), .slice A l.length c], .bool false, .int .i64 50]) (by simp [results, Try.results18, go_sem, g0, g1]) rfl ?_
    exact HF.out _ (below_setCell (below_setCell (below_drewN HB.out.below q) (by show w.heap.size ≤ w.heap.size + 1 + 1; omega) _) (by show w.heap.size ≤ w.heap.size + 1 + 1; omega) _)
  · rw [hno] at hck
    have hpl := fun q => place_any (c := c) ((h.below hB.below).below (below_drewN (Below.refl _ W) q)).toPts (by omega) hr p.1
    have HF := Lib.hid (fun (w' : World) (hb : Below w.heap.size w w') => RPutPost.same (dim := dim) (x := p.1) (pv := p.2.2) H.out.1 hb (bo := false) (er := 2) (by unfold putA; rw [if_pos hno, if_neg (fun hh2 => by rw [hh] at hh2; simp at hh2; omega)]) (by unfold putR; rw [if_neg (fun hh2 => by rw [hh] at hh2; simp at hh2; omega)]))
    have HH := Lib.hid hh
    have hfz : (512 : Int) ≤ (l.length : Int) := by omega
    clear h hr hl hp hno hB hh hf
    go_enter Try.func18, Try.ntmps18
    go_wp2_with fail
    rw [HW.out]
    refine hck.mono ?_
    rintro e w1 ⟨rfl, q, rfl⟩
    go_wp2_with fail
    refine (hpl q).mono ?_
    rintro e w2 ⟨k, b, rfl, hplc, q2, rfl⟩
    have hb : b = false := hplc.has.symm.trans HH.out
    subst hb
    have hs3 : Row (((W.drewN (q + q2)).setCell ⟨w.heap.size + 1 + 1, 0, none⟩ (.int .i64 (dim : Int))).setCell ⟨w.heap.size + 1 + 1, 1, none⟩ (.slice A l.length c)) (w.heap.size + 1 + 1) 29 [.int .i64 (dim : Int), .slice A l.length c] := hs2
    have HB3 := Lib.hid (show Below w.heap.size w (((W.drewN (q + q2)).setCell ⟨w.heap.size + 1 + 1, 0, none⟩ (.int .i64 (dim : Int))).setCell ⟨w.heap.size + 1 + 1, 1, none⟩ (.slice A l.length c)) from below_setCell (below_setCell (below_drewN HB.out.below (q + q2)) (by show w.heap.size ≤ w.heap.size + 1 + 1; omega) _) (by show w.heap.size ≤ w.heap.size + 1 + 1; omega) _)
    have HS3 := Lib.hid hs3
    clear hplc hs hs2 hs3 hpl hck
    go_wp2_with fail
    have g0 := HS3.out.cell (j := 0) rfl
    have g1 := HS3.out.cell (j := 1) rfl
    refine bodyPost_ret (v := .tuple #[.agg #[.int .i64 (dim : Int), .slice A l.length c], .bool false, .int .i64 2]) (by simp [results, Try.results18, go_sem, g0, g1]) rfl ?_
    exact HF.out _ HB3.out
theorem Reads.pre {w : World} {B size n k : Nat} {A : Option Addr} {xs : List Value} (h : Reads w B size A n xs) (hk : k ≤ n) : Reads w B size A k (xs.take (k * size)) := by
  have hle : k * size ≤ n * size := Nat.mul_le_mul_right _ hk
  refine ⟨by rw [List.length_take, h.1]; omega, fun h0 => ?_⟩
  obtain ⟨ad, e, hb, hc⟩ := h.2 (by omega)
  refine ⟨ad, e, hb, fun j u hj => hc j u ?_⟩
  rw [List.getElem?_take] at hj
  split at hj
  · exact hj
  · cases hj
/-- Behind the appends: the answer is written, and handed back. -/
theorem put_end {w w3 : World} {dim : Int} {sl psl s3 : Value} {x : Int} (h : PBox w w3 dim sl x psl) :
    Row (((w3.setCell ⟨w.heap.size, 1, none⟩ s3).setCell ⟨w.heap.size + 1 + 1, 0, none⟩ (.int .i64 dim)).setCell ⟨w.heap.size + 1 + 1, 1, none⟩ s3) (w.heap.size + 1 + 1) 29 [.int .i64 dim, s3] ∧
    Below w.heap.size w (((w3.setCell ⟨w.heap.size, 1, none⟩ s3).setCell ⟨w.heap.size + 1 + 1, 0, none⟩ (.int .i64 dim)).setCell ⟨w.heap.size + 1 + 1, 1, none⟩ s3) ∧
    (∀ g, w.heap.size + 1 + 1 + 1 ≤ g → (((w3.setCell ⟨w.heap.size, 1, none⟩ s3).setCell ⟨w.heap.size + 1 + 1, 0, none⟩ (.int .i64 dim)).setCell ⟨w.heap.size + 1 + 1, 1, none⟩ s3).heap[g]? = w3.heap[g]?) := by
  refine ⟨((h.b2.keep (heap_set_ne w3 _ _ (by show w.heap.size + 1 + 1 ≠ w.heap.size; omega))).set 0 (.int .i64 dim)).set 1 s3, ?_, fun g hg => ?_⟩
  · exact below_setCell (below_setCell (below_setCell h.below (Nat.le_refl _) _) (by show w.heap.size ≤ w.heap.size + 1 + 1; omega) _) (by show w.heap.size ≤ w.heap.size + 1 + 1; omega) _
  · rw [heap_set_ne _ _ _ (by show g ≠ w.heap.size + 1 + 1; omega), heap_set_ne _ _ _ (by show g ≠ w.heap.size + 1 + 1; omega), heap_set_ne _ _ _ (by show g ≠ w.heap.size; omega)]
set_option maxHeartbeats 8000000 in
set_option maxRecDepth 100000 in
theorem rput_yes {w : World} {P : Nat → Prop} {A : Option Addr} {c dim : Nat} {l : List Pt} (h : DocW w P A c l) (hr : Rise (l.map bareP)) (hl : l.length ≤ 512) {p : Pt} (hp : PtIn w P p)
    (hck0 : ck p.2.2 dim = 0) (hroom : hasT p.1 (l.map bareP) = true ∨ (l.map bareP).length < 512) :
    Calls Try.prog 18 #[.agg #[.int .i64 (dim : Int), .slice A l.length c], .agg #[.int .i64 p.1, .slice p.2.1.1 p.2.1.2.1 p.2.1.2.2]] w (RPutPost P dim l p.1 p.2.2 w) := by
  have hB := PBox.new w (dim : Int) (.slice A l.length c) p.1 (.slice p.2.1.1 p.2.1.2.1 p.2.1.2.2)
  generalize hW : ((w.alloc (.cells #[.int .i64 (dim : Int), .slice A l.length c] 29)).alloc (.cells #[.int .i64 p.1, .slice p.2.1.1 p.2.1.2.1 p.2.1.2.2] 37)).alloc (.cells #[.int .i64 0, .slice none 0 0] 29) = W at *
  have HW := Lib.hid hW
  clear hW
  have hck := rcheck_any p.2.1.1 p.2.1.2.1 p.2.1.2.2 w.heap.size p.2.2 (dim : Int) W ((hp.reads h.lt).below hB.below) (by rw [hp.len]; exact hp.max)
  rw [hck0] at hck
  have hcm := h.cm
  unfold maxLen at hcm
  have hnc := h.nc
  have hpl := fun q => place_any (c := c) ((h.below hB.below).below (below_drewN (Below.refl _ W) q)).toPts (by omega) hr p.1
  have H := Lib.hid (And.intro h (And.intro hr (And.intro hp (And.intro hck0 hroom))))
  have HB := Lib.hid hB
  have y0 := hB.b0.cell (j := 0) rfl
  have y1 := hB.b0.cell (j := 1) rfl
  have p0 := hB.b1.cell (j := 0) rfl
  have p1 := hB.b1.cell (j := 1) rfl
  have l0 := hB.b0.lt
  have l1 := hB.b1.lt
  have l2 := hB.b2.lt
  have hrow := h.row
  clear h hr hp hck0 hroom hB
  obtain ⟨n, hn⟩ : ∃ n, n = l.length := ⟨_, rfl⟩
  rw [← hn] at hl hnc y1 hpl ⊢
  have HN := Lib.hid hn
  clear hn
  go_enter Try.func18, Try.ntmps18
  go_wp2_with fail
  rw [HN.out, HW.out, ← HN.out]
  refine hck.mono ?_
  rintro e w1 ⟨rfl, q, rfl⟩
  clear hck
  go_wp2_with fail
  refine (hpl q).mono ?_
  rintro e w2 ⟨k, b, rfl, hplc, q2, rfl⟩
  clear hpl
  have hkn : k ≤ n := by rw [HN.out]; have := hplc.le; simpa using this
  have hB2 : PBox w (W.drewN (q + q2)) (dim : Int) (.slice A l.length c) p.1 (.slice p.2.1.1 p.2.1.2.1 p.2.1.2.2) := HB.out.under (below_drewN (Below.refl W.heap.size W) (q + q2)) HB.out.le
  have hV0 : (W.drewN (q + q2)).heap.size = W.heap.size := rfl
  obtain ⟨V, hV⟩ : ∃ V, V = W.drewN (q + q2) := ⟨_, rfl⟩
  have HVE := Lib.hid hV.symm
  rw [← hV] at hB2
  have hDV := H.out.1.below hB2.below
  rw [← HN.out] at hB2
  have HV := Lib.hid (And.intro hB2 hDV)
  have HPLC := Lib.hid hplc
  have hbs : w.heap.size + 1 + 1 + 1 ≤ V.heap.size := hB2.le
  have HRD := Lib.hid (show Reads V V.heap.size 2 A n (pts l) by rw [HN.out]; exact hDV.toPts.row)
  clear hplc hB2 hDV hV hV0
  have HBS := Lib.hid hbs
  rcases hrow with ⟨rfl, rfl, hln⟩ | ⟨ad, rfl, _, _⟩
  · have hn0 : n = 0 := by rw [HN.out, hln]; rfl
    have hk0 : k = 0 := by omega
    have hbf : b = false := by
      have := HPLC.out.has
      rw [hln] at this
      exact this.symm
    subst hbf hk0
    have HRT := Lib.hid (show Reads V V.heap.size 2 none 0 (pts (l.take 0)) from Reads.none_)
    have HRR := Lib.hid (show Reads V V.heap.size 2 none 0 (pts (l.drop 0)) by rw [hln]; exact Reads.none_)
    clear hln
    subst hn0
    go_wp2_with (first
      | (at_builtin; rw [HVE.out]; refine append_pts rfl (.tmp 48) (.tmp 52) rfl V.heap.size (.slice none 0 0) 0 [] rfl (World.ownsRow_nil ..) V.heap.size _ 0 _ (l.take 0) rfl HRT.out (by omega) (Nat.le_refl _) ?_; intro v1 w1 hown1 hg1; rw [Nat.zero_add, List.nil_append] at hown1; have hb1 : Below V.heap.size V w1 := ⟨hg1.os, hg1.tape, hg1.output, hg1.size, fun b hb => hg1.block b hb (by simp [Value.ownBlock])⟩; have B1 := HV.out.1.under hb1 hbs; have p0 := B1.b1.cell (j := 0) rfl; have p1 := B1.b1.cell (j := 1) rfl; have pl := B1.b1.lt; have H1 := Lib.hid (And.intro hown1 (And.intro hb1 B1)); clear hown1 hg1 hb1 B1)
      | (at_builtin; refine append_pt rfl (.tmp 54) (.tmp 56) rfl V.heap.size v1 0 (l.take 0) p.1 p.2.1.1 p.2.1.2.1 p.2.1.2.2 p.2.2 rfl H1.out.1 _ rfl rfl (by omega) H1.out.2.1.size ?_; intro v2 w2 hown2 hg2 _; have hb2 := below_own H1.out.1 hg2 H1.out.2.1.size; have H2 := Lib.hid (And.intro hown2 (And.intro (H1.out.2.1.trans hb2) (H1.out.2.2.under hb2 hbs))); clear hown2 hg2 hb2)
      | (at_builtin; refine append_pts rfl (.tmp 58) (.tmp 59) rfl V.heap.size v2 (0 + 1) (l.take 0 ++ [p]) rfl H2.out.1 V.heap.size _ 0 _ (l.drop 0) rfl (HRR.out.below H2.out.2.1) (by omega) H2.out.2.1.size ?_; intro v3 w3 hown3 hg3; have hb3 := below_own H2.out.1 hg3 H2.out.2.1.size; obtain ⟨A3, c3, rfl, _, _⟩ := own_shape hown3; have B3 := H2.out.2.2.under hb3 hbs; have y0 := B3.b0.cell (j := 0) rfl; have y1 := B3.b0.cell (j := 1) rfl; have yf := B3.b0.frozen 1; have yl := B3.b0.lt; have r0 := B3.b2.cell (j := 0) rfl; have r1 := B3.b2.cell (j := 1) rfl; have rf0 := B3.b2.frozen 0; have rf1 := B3.b2.frozen 1; have rl := B3.b2.lt; have H3 := Lib.hid (And.intro hown3 (And.intro (H2.out.2.1.trans hb3) B3)); clear hown3 hg3 hb3 B3))
    obtain ⟨hrow, hbelow, hkeep⟩ := put_end (s3 := .slice A3 (0 + 1 + 0) c3) H3.out.2.2
    have g0 := hrow.cell (j := 0) rfl
    have g1 := hrow.cell (j := 1) rfl
    refine bodyPost_ret (v := .tuple #[.agg #[.int .i64 (dim : Int), .slice A3 (0 + 1 + 0) c3], .bool false, .int .i64 0]) (by simp [results, Try.results18, go_sem, g0, g1]) rfl ?_
    exact RPutPost.new H.out.1 HPLC.out (p := p) rfl H.out.2.2.1 H.out.2.2.2.1 H.out.2.2.2.2 (l2 := l.take 0 ++ [p] ++ l.drop 0) rfl (by rw [List.length_append, List.length_append, List.length_take, List.length_drop, ← HN.out]; simp only [List.length_cons, List.length_nil]; omega) H3.out.1 (by omega) (HV.out.1.below.trans (H3.out.2.1.mono (by omega))) hbelow (fun g h1 _ => hkeep g (by omega)) (by simp)
  · have HRT := Lib.hid (show Reads V V.heap.size 2 (some ad) k (pts (l.take k)) from by
      have := HRD.out.pre hkn
      rwa [pts_take] at this)
    cases b with
    | false =>
      have hroomz : ¬ (512 : Int) ≤ (n : Int) := by
        have h1 := H.out.2.2.2.2
        rw [HPLC.out.has] at h1
        simp at h1
        have := HN.out
        omega
      by_cases hck : c = k
      · have HRR := Lib.hid (show Reads V V.heap.size 2 (some ad) 0 (pts (l.drop k)) from by
          have h1 : l.drop k = [] := List.drop_eq_nil_of_le (by have := HN.out; omega)
          rw [h1]
          exact ⟨rfl, fun h => absurd h (by omega)⟩)
        have hnk : n = k := by omega
        subst hck
        subst hnk
        go_wp2_with (first
          | (at_builtin; rw [HVE.out]; refine append_pts rfl (.tmp 48) (.tmp 52) rfl V.heap.size (.slice none 0 0) 0 [] rfl (World.ownsRow_nil ..) V.heap.size _ n _ (l.take n) rfl HRT.out (by omega) (Nat.le_refl _) ?_; intro v1 w1 hown1 hg1; rw [Nat.zero_add, List.nil_append] at hown1; have hb1 : Below V.heap.size V w1 := ⟨hg1.os, hg1.tape, hg1.output, hg1.size, fun b hb => hg1.block b hb (by simp [Value.ownBlock])⟩; have B1 := HV.out.1.under hb1 hbs; have p0 := B1.b1.cell (j := 0) rfl; have p1 := B1.b1.cell (j := 1) rfl; have pl := B1.b1.lt; have H1 := Lib.hid (And.intro hown1 (And.intro hb1 B1)); clear hown1 hg1 hb1 B1)
          | (at_builtin; refine append_pt rfl (.tmp 54) (.tmp 56) rfl V.heap.size v1 n (l.take n) p.1 p.2.1.1 p.2.1.2.1 p.2.1.2.2 p.2.2 rfl H1.out.1 _ rfl rfl (by omega) H1.out.2.1.size ?_; intro v2 w2 hown2 hg2 _; have hb2 := below_own H1.out.1 hg2 H1.out.2.1.size; have H2 := Lib.hid (And.intro hown2 (And.intro (H1.out.2.1.trans hb2) (H1.out.2.2.under hb2 hbs))); clear hown2 hg2 hb2)
          | (at_builtin; refine append_pts rfl (.tmp 58) (.tmp 59) rfl V.heap.size v2 (n + 1) (l.take n ++ [p]) rfl H2.out.1 V.heap.size _ 0 _ (l.drop n) rfl (HRR.out.below H2.out.2.1) (by omega) H2.out.2.1.size ?_; intro v3 w3 hown3 hg3; have hb3 := below_own H2.out.1 hg3 H2.out.2.1.size; obtain ⟨A3, c3, rfl, _, _⟩ := own_shape hown3; have B3 := H2.out.2.2.under hb3 hbs; have y0 := B3.b0.cell (j := 0) rfl; have y1 := B3.b0.cell (j := 1) rfl; have yf := B3.b0.frozen 1; have yl := B3.b0.lt; have r0 := B3.b2.cell (j := 0) rfl; have r1 := B3.b2.cell (j := 1) rfl; have rf0 := B3.b2.frozen 0; have rf1 := B3.b2.frozen 1; have rl := B3.b2.lt; have H3 := Lib.hid (And.intro hown3 (And.intro (H2.out.2.1.trans hb3) B3)); clear hown3 hg3 hb3 B3))
        obtain ⟨hrow, hbelow, hkeep⟩ := put_end (s3 := .slice A3 (n + 1 + 0) c3) H3.out.2.2
        have g0 := hrow.cell (j := 0) rfl
        have g1 := hrow.cell (j := 1) rfl
        refine bodyPost_ret (v := .tuple #[.agg #[.int .i64 (dim : Int), .slice A3 (n + 1 + 0) c3], .bool false, .int .i64 0]) (by simp [results, Try.results18, go_sem, g0, g1]) rfl ?_
        exact RPutPost.new H.out.1 HPLC.out (p := p) rfl H.out.2.2.1 H.out.2.2.2.1 H.out.2.2.2.2 (l2 := l.take n ++ [p] ++ l.drop n) rfl (by rw [List.length_append, List.length_append, List.length_take, List.length_drop, ← HN.out]; simp only [List.length_cons, List.length_nil]; omega) H3.out.1 (by omega) (HV.out.1.below.trans (H3.out.2.1.mono (by omega))) hbelow (fun g h1 _ => hkeep g (by omega)) (by simp)
      · have HRR := Lib.hid (show Reads V V.heap.size 2 (some (ad.add (k * 2))) (n - k) (pts (l.drop k)) from by
          have := HRD.out.cut (cap := c) hkn hnc
          rw [if_neg hck, pts_drop] at this
          exact this)
        go_wp2_with (first
          | (at_builtin; rw [HVE.out]; refine append_pts rfl (.tmp 48) (.tmp 52) rfl V.heap.size (.slice none 0 0) 0 [] rfl (World.ownsRow_nil ..) V.heap.size _ k _ (l.take k) rfl HRT.out (by omega) (Nat.le_refl _) ?_; intro v1 w1 hown1 hg1; rw [Nat.zero_add, List.nil_append] at hown1; have hb1 : Below V.heap.size V w1 := ⟨hg1.os, hg1.tape, hg1.output, hg1.size, fun b hb => hg1.block b hb (by simp [Value.ownBlock])⟩; have B1 := HV.out.1.under hb1 hbs; have p0 := B1.b1.cell (j := 0) rfl; have p1 := B1.b1.cell (j := 1) rfl; have pl := B1.b1.lt; have H1 := Lib.hid (And.intro hown1 (And.intro hb1 B1)); clear hown1 hg1 hb1 B1)
          | (at_builtin; refine append_pt rfl (.tmp 54) (.tmp 56) rfl V.heap.size v1 k (l.take k) p.1 p.2.1.1 p.2.1.2.1 p.2.1.2.2 p.2.2 rfl H1.out.1 _ rfl rfl (by omega) H1.out.2.1.size ?_; intro v2 w2 hown2 hg2 _; have hb2 := below_own H1.out.1 hg2 H1.out.2.1.size; have H2 := Lib.hid (And.intro hown2 (And.intro (H1.out.2.1.trans hb2) (H1.out.2.2.under hb2 hbs))); clear hown2 hg2 hb2)
          | (at_builtin; refine append_pts rfl (.tmp 58) (.tmp 59) rfl V.heap.size v2 (k + 1) (l.take k ++ [p]) rfl H2.out.1 V.heap.size _ (n - k) _ (l.drop k) rfl (HRR.out.below H2.out.2.1) (by omega) H2.out.2.1.size ?_; intro v3 w3 hown3 hg3; have hb3 := below_own H2.out.1 hg3 H2.out.2.1.size; obtain ⟨A3, c3, rfl, _, _⟩ := own_shape hown3; have B3 := H2.out.2.2.under hb3 hbs; have y0 := B3.b0.cell (j := 0) rfl; have y1 := B3.b0.cell (j := 1) rfl; have yf := B3.b0.frozen 1; have yl := B3.b0.lt; have r0 := B3.b2.cell (j := 0) rfl; have r1 := B3.b2.cell (j := 1) rfl; have rf0 := B3.b2.frozen 0; have rf1 := B3.b2.frozen 1; have rl := B3.b2.lt; have H3 := Lib.hid (And.intro hown3 (And.intro (H2.out.2.1.trans hb3) B3)); clear hown3 hg3 hb3 B3))
        obtain ⟨hrow, hbelow, hkeep⟩ := put_end (s3 := .slice A3 (k + 1 + (n - k)) c3) H3.out.2.2
        have g0 := hrow.cell (j := 0) rfl
        have g1 := hrow.cell (j := 1) rfl
        refine bodyPost_ret (v := .tuple #[.agg #[.int .i64 (dim : Int), .slice A3 (k + 1 + (n - k)) c3], .bool false, .int .i64 0]) (by simp [results, Try.results18, go_sem, g0, g1]) rfl ?_
        exact RPutPost.new H.out.1 HPLC.out (p := p) rfl H.out.2.2.1 H.out.2.2.2.1 H.out.2.2.2.2 (l2 := l.take k ++ [p] ++ l.drop k) rfl (by rw [List.length_append, List.length_append, List.length_take, List.length_drop, ← HN.out]; simp only [List.length_cons, List.length_nil]; omega) H3.out.1 (by omega) (HV.out.1.below.trans (H3.out.2.1.mono (by omega))) hbelow (fun g h1 _ => hkeep g (by omega)) (by simp)
    | true =>
      have hkn1 : k + 1 ≤ n := by
        obtain ⟨v, r, e, _⟩ := HPLC.out.yes rfl
        have := congrArg List.length e
        rw [List.length_drop, List.length_map, List.length_cons, ← HN.out] at this
        omega
      have hck0 : ¬ c = k := by omega
      by_cases hck : c = k + 1
      · have HRR := Lib.hid (show Reads V V.heap.size 2 (some ad) 0 (pts (l.drop (k + 1))) from by
          have h1 : l.drop (k + 1) = [] := List.drop_eq_nil_of_le (by have := HN.out; omega)
          rw [h1]
          exact ⟨rfl, fun h => absurd h (by omega)⟩)
        have hnk : n = k + 1 := by omega
        subst hck
        subst hnk
        go_wp2_with (first
          | (at_builtin; rw [HVE.out]; refine append_pts rfl (.tmp 48) (.tmp 52) rfl V.heap.size (.slice none 0 0) 0 [] rfl (World.ownsRow_nil ..) V.heap.size _ k _ (l.take k) rfl HRT.out (by omega) (Nat.le_refl _) ?_; intro v1 w1 hown1 hg1; rw [Nat.zero_add, List.nil_append] at hown1; have hb1 : Below V.heap.size V w1 := ⟨hg1.os, hg1.tape, hg1.output, hg1.size, fun b hb => hg1.block b hb (by simp [Value.ownBlock])⟩; have B1 := HV.out.1.under hb1 hbs; have p0 := B1.b1.cell (j := 0) rfl; have p1 := B1.b1.cell (j := 1) rfl; have pl := B1.b1.lt; have H1 := Lib.hid (And.intro hown1 (And.intro hb1 B1)); clear hown1 hg1 hb1 B1)
          | (at_builtin; refine append_pt rfl (.tmp 54) (.tmp 56) rfl V.heap.size v1 k (l.take k) p.1 p.2.1.1 p.2.1.2.1 p.2.1.2.2 p.2.2 rfl H1.out.1 _ rfl rfl (by omega) H1.out.2.1.size ?_; intro v2 w2 hown2 hg2 _; have hb2 := below_own H1.out.1 hg2 H1.out.2.1.size; have H2 := Lib.hid (And.intro hown2 (And.intro (H1.out.2.1.trans hb2) (H1.out.2.2.under hb2 hbs))); clear hown2 hg2 hb2)
          | (at_builtin; refine append_pts rfl (.tmp 58) (.tmp 59) rfl V.heap.size v2 (k + 1) (l.take k ++ [p]) rfl H2.out.1 V.heap.size _ 0 _ (l.drop (k + 1)) rfl (HRR.out.below H2.out.2.1) (by omega) H2.out.2.1.size ?_; intro v3 w3 hown3 hg3; have hb3 := below_own H2.out.1 hg3 H2.out.2.1.size; obtain ⟨A3, c3, rfl, _, _⟩ := own_shape hown3; have B3 := H2.out.2.2.under hb3 hbs; have y0 := B3.b0.cell (j := 0) rfl; have y1 := B3.b0.cell (j := 1) rfl; have yf := B3.b0.frozen 1; have yl := B3.b0.lt; have r0 := B3.b2.cell (j := 0) rfl; have r1 := B3.b2.cell (j := 1) rfl; have rf0 := B3.b2.frozen 0; have rf1 := B3.b2.frozen 1; have rl := B3.b2.lt; have H3 := Lib.hid (And.intro hown3 (And.intro (H2.out.2.1.trans hb3) B3)); clear hown3 hg3 hb3 B3))
        obtain ⟨hrow, hbelow, hkeep⟩ := put_end (s3 := .slice A3 (k + 1 + 0) c3) H3.out.2.2
        have g0 := hrow.cell (j := 0) rfl
        have g1 := hrow.cell (j := 1) rfl
        refine bodyPost_ret (v := .tuple #[.agg #[.int .i64 (dim : Int), .slice A3 (k + 1 + 0) c3], .bool true, .int .i64 0]) (by simp [results, Try.results18, go_sem, g0, g1]) rfl ?_
        exact RPutPost.new H.out.1 HPLC.out (p := p) rfl H.out.2.2.1 H.out.2.2.2.1 H.out.2.2.2.2 (l2 := l.take k ++ [p] ++ l.drop (k + 1)) rfl (by rw [List.length_append, List.length_append, List.length_take, List.length_drop, ← HN.out]; simp only [List.length_cons, List.length_nil]; omega) H3.out.1 (by omega) (HV.out.1.below.trans (H3.out.2.1.mono (by omega))) hbelow (fun g h1 _ => hkeep g (by omega)) (by simp)
      · have HRR := Lib.hid (show Reads V V.heap.size 2 (some (ad.add ((k + 1) * 2))) (n - (k + 1)) (pts (l.drop (k + 1))) from by
          have := HRD.out.cut (cap := c) hkn1 hnc
          rw [if_neg hck, pts_drop] at this
          exact this)
        have hkz : (k : Int) + 1 < (c : Int) := by omega
        go_wp2_with (first
          | (at_builtin; rw [HVE.out]; refine append_pts rfl (.tmp 48) (.tmp 52) rfl V.heap.size (.slice none 0 0) 0 [] rfl (World.ownsRow_nil ..) V.heap.size _ k _ (l.take k) rfl HRT.out (by omega) (Nat.le_refl _) ?_; intro v1 w1 hown1 hg1; rw [Nat.zero_add, List.nil_append] at hown1; have hb1 : Below V.heap.size V w1 := ⟨hg1.os, hg1.tape, hg1.output, hg1.size, fun b hb => hg1.block b hb (by simp [Value.ownBlock])⟩; have B1 := HV.out.1.under hb1 hbs; have p0 := B1.b1.cell (j := 0) rfl; have p1 := B1.b1.cell (j := 1) rfl; have pl := B1.b1.lt; have H1 := Lib.hid (And.intro hown1 (And.intro hb1 B1)); clear hown1 hg1 hb1 B1)
          | (at_builtin; refine append_pt rfl (.tmp 54) (.tmp 56) rfl V.heap.size v1 k (l.take k) p.1 p.2.1.1 p.2.1.2.1 p.2.1.2.2 p.2.2 rfl H1.out.1 _ rfl rfl (by omega) H1.out.2.1.size ?_; intro v2 w2 hown2 hg2 _; have hb2 := below_own H1.out.1 hg2 H1.out.2.1.size; have H2 := Lib.hid (And.intro hown2 (And.intro (H1.out.2.1.trans hb2) (H1.out.2.2.under hb2 hbs))); clear hown2 hg2 hb2)
          | (at_builtin; refine append_pts rfl (.tmp 58) (.tmp 59) rfl V.heap.size v2 (k + 1) (l.take k ++ [p]) rfl H2.out.1 V.heap.size _ (n - (k + 1)) _ (l.drop (k + 1)) rfl (HRR.out.below H2.out.2.1) (by omega) H2.out.2.1.size ?_; intro v3 w3 hown3 hg3; have hb3 := below_own H2.out.1 hg3 H2.out.2.1.size; obtain ⟨A3, c3, rfl, _, _⟩ := own_shape hown3; have B3 := H2.out.2.2.under hb3 hbs; have y0 := B3.b0.cell (j := 0) rfl; have y1 := B3.b0.cell (j := 1) rfl; have yf := B3.b0.frozen 1; have yl := B3.b0.lt; have r0 := B3.b2.cell (j := 0) rfl; have r1 := B3.b2.cell (j := 1) rfl; have rf0 := B3.b2.frozen 0; have rf1 := B3.b2.frozen 1; have rl := B3.b2.lt; have H3 := Lib.hid (And.intro hown3 (And.intro (H2.out.2.1.trans hb3) B3)); clear hown3 hg3 hb3 B3))
        obtain ⟨hrow, hbelow, hkeep⟩ := put_end (s3 := .slice A3 n c3) H3.out.2.2
        have g0 := hrow.cell (j := 0) rfl
        have g1 := hrow.cell (j := 1) rfl
        refine bodyPost_ret (v := .tuple #[.agg #[.int .i64 (dim : Int), .slice A3 n c3], .bool true, .int .i64 0]) (by simp [results, Try.results18, go_sem, g0, g1]) rfl ?_
        exact RPutPost.new H.out.1 HPLC.out (p := p) rfl H.out.2.2.1 H.out.2.2.2.1 H.out.2.2.2.2 (l2 := l.take k ++ [p] ++ l.drop (k + 1)) rfl (by rw [List.length_append, List.length_append, List.length_take, List.length_drop, ← HN.out]; simp only [List.length_cons, List.length_nil]; omega) (by have := H3.out.1; rwa [show k + 1 + (n - (k + 1)) = n by omega] at this) (by omega) (HV.out.1.below.trans (H3.out.2.1.mono (by omega))) hbelow (fun g h1 _ => hkeep g (by omega)) (by simp)
end Go.Proofs.Ytkgapieikgniiaa
