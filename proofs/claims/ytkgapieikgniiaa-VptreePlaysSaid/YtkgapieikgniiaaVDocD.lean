/- What Drop and Get of the document's tree return. Conditions: the tree lies in memory. -/
import Derived.Test.YtkgapieikgniiaaVDocC
set_option linter.unusedVariables false
set_option linter.unusedSimpArgs false
namespace Go.Proofs.Ytkgapieikgniiaa
open Go Go.RowKit Go.Maps
def RDropPost (P : Nat → Prop) (dim : Nat) (l : List Pt) (x : Int) (w : World) (e : Ending) (w' : World) : Prop :=
  ∃ (A' : Option Addr) (c' : Nat) (l' : List Pt), e = .returned (.tuple #[.agg #[.int .i64 (dim : Int), .slice A' l'.length c'], .bool (hasT x (l.map bareP))]) ∧ DocW w' (NewP P w w') A' c' l' ∧ l'.map bareP = delT x (l.map bareP) ∧ Below w.heap.size w w'
theorem RDropPost.new {P : Nat → Prop} {dim : Nat} {A A2 : Option Addr} {c c2 n2 base k : Nat} {l l2 : List Pt} {x : Int} {w w2 w' : World} (h : DocW w P A c l) (hp : Plc (l.map bareP) x k true)
    (hl2 : l2 = l.take k ++ l.drop (k + 1)) (hn : n2 = l2.length) (ho : w2.ownsRow base 37 2 (.slice A2 n2 c2) n2 (pts l2)) (hbase : w.heap.size ≤ base) (hb2 : Below w.heap.size w w') (hkeep : ∀ g, base ≤ g → g < w2.heap.size → w'.heap[g]? = w2.heap[g]?) :
    RDropPost P dim l x w (.returned (.tuple #[.agg #[.int .i64 (dim : Int), .slice A2 n2 c2], .bool true])) w' := by
  refine ⟨A2, c2, l2, by rw [hp.has, hn], ?_, ?_, hb2⟩
  · have ho' : w'.ownsRow base 37 2 (.slice A2 n2 c2) n2 (pts l2) := own_keep ho (fun g hg => hkeep g (ho.lt g hg).1 (ho.lt g hg).2)
    refine DocW.of_own ho' hn (fun q hq => ?_) (newP_lt h.lt hb2.size) (fun g h1 h2 => .inr ⟨by omega, h2⟩)
    have hq' : PtIn w P q := by
      rw [hl2] at hq
      rcases List.mem_append.1 hq with hq | hq
      · exact h.allp q (List.mem_of_mem_take hq)
      · exact h.allp q (List.mem_of_mem_drop hq)
    exact (hq'.keep (fun b hP => hb2.block b (h.lt b hP))).more (fun b hP => .inl hP)
  · rw [hl2, List.map_append, List.map_take, List.map_drop, hp.del]
structure DBox (w W : World) (dim : Int) (sl : Value) : Prop where
  b0 : Row W w.heap.size 29 [.int .i64 dim, sl]
  b2 : Row W (w.heap.size + 1) 29 [.int .i64 0, .slice none 0 0]
  below : Below w.heap.size w W
  le : w.heap.size + 2 ≤ W.heap.size
theorem DBox.new (w : World) (dim : Int) (sl : Value) : DBox w ((w.alloc (.cells #[.int .i64 dim, sl] 29)).alloc (.cells #[.int .i64 0, .slice none 0 0] 29)) dim sl := by
  have e1 : (w.alloc (.cells #[.int .i64 dim, sl] 29)).heap.size = w.heap.size + 1 := by simp
  refine ⟨(Row.new w 29 [.int .i64 dim, sl]).keep (heap_alloc_lt _ _ (by omega)), ?_, ((Below.refl _ w).alloc (Nat.le_refl _) _).alloc (by omega) _, by simp⟩
  have := Row.new (w.alloc (.cells #[.int .i64 dim, sl] 29)) 29 [.int .i64 0, .slice none 0 0]
  rw [e1] at this
  exact this
theorem DBox.under {w W W' : World} {dim : Int} {sl : Value} (h : DBox w W dim sl) {B : Nat} (hb : Below B W W') (hB : w.heap.size + 2 ≤ B) : DBox w W' dim sl :=
  ⟨h.b0.keep (hb.block _ (by omega)), h.b2.keep (hb.block _ (by omega)), h.below.trans (hb.mono (by omega)), Nat.le_trans h.le hb.size⟩
theorem drop_end {w w3 : World} {dim : Int} {sl s3 : Value} (h : DBox w w3 dim sl) :
    Row (((w3.setCell ⟨w.heap.size, 1, none⟩ s3).setCell ⟨w.heap.size + 1, 0, none⟩ (.int .i64 dim)).setCell ⟨w.heap.size + 1, 1, none⟩ s3) (w.heap.size + 1) 29 [.int .i64 dim, s3] ∧
    Below w.heap.size w (((w3.setCell ⟨w.heap.size, 1, none⟩ s3).setCell ⟨w.heap.size + 1, 0, none⟩ (.int .i64 dim)).setCell ⟨w.heap.size + 1, 1, none⟩ s3) ∧
    (∀ g, w.heap.size + 2 ≤ g → (((w3.setCell ⟨w.heap.size, 1, none⟩ s3).setCell ⟨w.heap.size + 1, 0, none⟩ (.int .i64 dim)).setCell ⟨w.heap.size + 1, 1, none⟩ s3).heap[g]? = w3.heap[g]?) := by
  refine ⟨((h.b2.keep (heap_set_ne w3 _ _ (by show w.heap.size + 1 ≠ w.heap.size; omega))).set 0 (.int .i64 dim)).set 1 s3, ?_, fun g hg => ?_⟩
  · exact below_setCell (below_setCell (below_setCell h.below (Nat.le_refl _) _) (by show w.heap.size ≤ w.heap.size + 1; omega) _) (by show w.heap.size ≤ w.heap.size + 1; omega) _
  · rw [heap_set_ne _ _ _ (by show g ≠ w.heap.size + 1; omega), heap_set_ne _ _ _ (by show g ≠ w.heap.size + 1; omega), heap_set_ne _ _ _ (by show g ≠ w.heap.size; omega)]
set_option maxHeartbeats 8000000 in
set_option maxRecDepth 100000 in
theorem rdrop_any {w : World} {P : Nat → Prop} {A : Option Addr} {c dim : Nat} {l : List Pt} (h : DocW w P A c l) (hr : Rise (l.map bareP)) (hl : l.length ≤ 512) (x : Int) :
    Calls Try.prog 26 #[.agg #[.int .i64 (dim : Int), .slice A l.length c], .int .i64 x] w (RDropPost P dim l x w) := by
  have hB := DBox.new w (dim : Int) (.slice A l.length c)
  generalize hW : (w.alloc (.cells #[.int .i64 (dim : Int), .slice A l.length c] 29)).alloc (.cells #[.int .i64 0, .slice none 0 0] 29) = W at *
  have HW := Lib.hid hW
  clear hW
  have hcm := h.cm
  unfold maxLen at hcm
  have hnc := h.nc
  have hpl := place_any (c := c) (h.below hB.below).toPts (by omega) hr x
  have H := Lib.hid (And.intro h hr)
  have HB := Lib.hid hB
  have y0 := hB.b0.cell (j := 0) rfl
  have y1 := hB.b0.cell (j := 1) rfl
  have l0 := hB.b0.lt
  have l2 := hB.b2.lt
  have r0 := hB.b2.cell (j := 0) rfl
  have r1 := hB.b2.cell (j := 1) rfl
  have rf0 := hB.b2.frozen 0
  have rf1 := hB.b2.frozen 1
  have hrow := h.row
  clear h hr hB
  obtain ⟨n, hn⟩ : ∃ n, n = l.length := ⟨_, rfl⟩
  rw [← hn] at hl hnc y1 hpl ⊢
  have HN := Lib.hid hn
  clear hn
  go_enter Try.func26, Try.ntmps26
  go_wp2_with fail
  rw [HN.out, HW.out, ← HN.out]
  refine hpl.mono ?_
  rintro e w2 ⟨k, b, rfl, hplc, q2, rfl⟩
  clear hpl
  have hkn : k ≤ n := by rw [HN.out]; have := hplc.le; simpa using this
  have hB2 : DBox w (W.drewN q2) (dim : Int) (.slice A l.length c) := HB.out.under (below_drewN (Below.refl W.heap.size W) q2) HB.out.le
  obtain ⟨V, hV⟩ : ∃ V, V = W.drewN q2 := ⟨_, rfl⟩
  have HVE := Lib.hid hV.symm
  rw [← hV] at hB2
  have hDV := H.out.1.below hB2.below
  rw [← HN.out] at hB2
  have HV := Lib.hid (And.intro hB2 hDV)
  have HPLC := Lib.hid hplc
  have hbs : w.heap.size + 2 ≤ V.heap.size := hB2.le
  have HRD := Lib.hid (show Reads V V.heap.size 2 A n (pts l) by rw [HN.out]; exact hDV.toPts.row)
  clear hplc hB2 hDV hV
  cases b with
  | false =>
    have hE : Row (((W.drewN q2).setCell ⟨w.heap.size + 1, 0, none⟩ (.int .i64 (dim : Int))).setCell ⟨w.heap.size + 1, 1, none⟩ (.slice A n c)) (w.heap.size + 1) 29 [.int .i64 (dim : Int), .slice A n c] := by
      rw [HVE.out]
      exact (HV.out.1.b2.set 0 _).set 1 _
    have hBel : Below w.heap.size w (((W.drewN q2).setCell ⟨w.heap.size + 1, 0, none⟩ (.int .i64 (dim : Int))).setCell ⟨w.heap.size + 1, 1, none⟩ (.slice A n c)) := by
      rw [HVE.out]
      exact below_setCell (below_setCell HV.out.1.below (by show w.heap.size ≤ w.heap.size + 1; omega) _) (by show w.heap.size ≤ w.heap.size + 1; omega) _
    have HE := Lib.hid (And.intro hE hBel)
    clear hE hBel
    go_wp2_with fail
    have g0 := HE.out.1.cell (j := 0) rfl
    have g1 := HE.out.1.cell (j := 1) rfl
    refine bodyPost_ret (v := .tuple #[.agg #[.int .i64 (dim : Int), .slice A n c], .bool false]) (by simp [results, Try.results26, go_sem, g0, g1]) rfl ?_
    exact ⟨A, c, l, by rw [HPLC.out.has, HN.out], (H.out.1.below HE.out.2).more (fun b hP => .inl hP) (newP_lt H.out.1.lt HE.out.2.size), HPLC.out.del_no.symm, HE.out.2⟩
  | true =>
    have hkn1 : k + 1 ≤ n := by
      obtain ⟨v, r, e, _⟩ := HPLC.out.yes rfl
      have := congrArg List.length e
      rw [List.length_drop, List.length_map, List.length_cons, ← HN.out] at this
      omega
    rcases hrow with ⟨_, _, hln⟩ | ⟨ad, rfl, _, _⟩
    · rw [HN.out, hln] at hkn1
      simp at hkn1
    · have HRT := Lib.hid (show Reads V V.heap.size 2 (some ad) k (pts (l.take k)) from by
        have := HRD.out.pre hkn
        rwa [pts_take] at this)
      have hck0 : ¬ c = k := by omega
      by_cases hck : c = k + 1
      · have HRR := Lib.hid (show Reads V V.heap.size 2 (some ad) 0 (pts (l.drop (k + 1))) from by
          have h1 : l.drop (k + 1) = [] := List.drop_eq_nil_of_le (by have := HN.out; omega)
          rw [h1]
          exact ⟨rfl, fun h => absurd h (by omega)⟩)
        have hnk : n = k + 1 := by omega
        subst hck
        subst hnk
        go_wp2_with (first
          | (at_builtin; rw [HVE.out]; refine append_pts rfl (.tmp 19) (.tmp 23) rfl V.heap.size (.slice none 0 0) 0 [] rfl (World.ownsRow_nil ..) V.heap.size _ k _ (l.take k) rfl HRT.out (by omega) (Nat.le_refl _) ?_; intro v1 w1 hown1 hg1; rw [Nat.zero_add, List.nil_append] at hown1; have hb1 : Below V.heap.size V w1 := ⟨hg1.os, hg1.tape, hg1.output, hg1.size, fun b hb => hg1.block b hb (by simp [Value.ownBlock])⟩; have B1 := HV.out.1.under hb1 hbs; have p0 := B1.b0.cell (j := 0) rfl; have p1 := B1.b0.cell (j := 1) rfl; have pl := B1.b0.lt; have H1 := Lib.hid (And.intro hown1 (And.intro hb1 B1)); clear hown1 hg1 hb1 B1)
          | (at_builtin; refine append_pts rfl (.tmp 25) (.tmp 30) rfl V.heap.size v1 k (l.take k) rfl H1.out.1 V.heap.size _ 0 _ (l.drop (k + 1)) rfl (HRR.out.below H1.out.2.1) (by omega) H1.out.2.1.size ?_; intro v3 w3 hown3 hg3; have hb3 := below_own H1.out.1 hg3 H1.out.2.1.size; obtain ⟨A3, c3, rfl, _, _⟩ := own_shape hown3; have B3 := H1.out.2.2.under hb3 hbs; have y0 := B3.b0.cell (j := 0) rfl; have y1 := B3.b0.cell (j := 1) rfl; have yf := B3.b0.frozen 1; have yl := B3.b0.lt; have r0 := B3.b2.cell (j := 0) rfl; have r1 := B3.b2.cell (j := 1) rfl; have rf0 := B3.b2.frozen 0; have rf1 := B3.b2.frozen 1; have rl := B3.b2.lt; have H3 := Lib.hid (And.intro hown3 (And.intro (H1.out.2.1.trans hb3) B3)); clear hown3 hg3 hb3 B3))
        obtain ⟨hrow, hbelow, hkeep⟩ := drop_end (s3 := .slice A3 k c3) H3.out.2.2
        have g0 := hrow.cell (j := 0) rfl
        have g1 := hrow.cell (j := 1) rfl
        refine bodyPost_ret (v := .tuple #[.agg #[.int .i64 (dim : Int), .slice A3 k c3], .bool true]) (by simp [results, Try.results26, go_sem, g0, g1]) rfl ?_
        exact RDropPost.new H.out.1 HPLC.out (l2 := l.take k ++ l.drop (k + 1)) rfl (by rw [List.length_append, List.length_take, List.length_drop, ← HN.out]; omega) H3.out.1 (by omega) hbelow (fun g h1 _ => hkeep g (by omega))
      · have HRR := Lib.hid (show Reads V V.heap.size 2 (some (ad.add ((k + 1) * 2))) (n - (k + 1)) (pts (l.drop (k + 1))) from by
          have := HRD.out.cut (cap := c) hkn1 hnc
          rw [if_neg hck, pts_drop] at this
          exact this)
        have hkz : (k : Int) + 1 < (c : Int) := by omega
        go_wp2_with (first
          | (at_builtin; rw [HVE.out]; refine append_pts rfl (.tmp 19) (.tmp 23) rfl V.heap.size (.slice none 0 0) 0 [] rfl (World.ownsRow_nil ..) V.heap.size _ k _ (l.take k) rfl HRT.out (by omega) (Nat.le_refl _) ?_; intro v1 w1 hown1 hg1; rw [Nat.zero_add, List.nil_append] at hown1; have hb1 : Below V.heap.size V w1 := ⟨hg1.os, hg1.tape, hg1.output, hg1.size, fun b hb => hg1.block b hb (by simp [Value.ownBlock])⟩; have B1 := HV.out.1.under hb1 hbs; have p0 := B1.b0.cell (j := 0) rfl; have p1 := B1.b0.cell (j := 1) rfl; have pl := B1.b0.lt; have H1 := Lib.hid (And.intro hown1 (And.intro hb1 B1)); clear hown1 hg1 hb1 B1)
          | (at_builtin; refine append_pts rfl (.tmp 25) (.tmp 30) rfl V.heap.size v1 k (l.take k) rfl H1.out.1 V.heap.size _ (n - (k + 1)) _ (l.drop (k + 1)) rfl (HRR.out.below H1.out.2.1) (by omega) H1.out.2.1.size ?_; intro v3 w3 hown3 hg3; have hb3 := below_own H1.out.1 hg3 H1.out.2.1.size; obtain ⟨A3, c3, rfl, _, _⟩ := own_shape hown3; have B3 := H1.out.2.2.under hb3 hbs; have y0 := B3.b0.cell (j := 0) rfl; have y1 := B3.b0.cell (j := 1) rfl; have yf := B3.b0.frozen 1; have yl := B3.b0.lt; have r0 := B3.b2.cell (j := 0) rfl; have r1 := B3.b2.cell (j := 1) rfl; have rf0 := B3.b2.frozen 0; have rf1 := B3.b2.frozen 1; have rl := B3.b2.lt; have H3 := Lib.hid (And.intro hown3 (And.intro (H1.out.2.1.trans hb3) B3)); clear hown3 hg3 hb3 B3))
        obtain ⟨hrow, hbelow, hkeep⟩ := drop_end (s3 := .slice A3 (k + (n - (k + 1))) c3) H3.out.2.2
        have g0 := hrow.cell (j := 0) rfl
        have g1 := hrow.cell (j := 1) rfl
        refine bodyPost_ret (v := .tuple #[.agg #[.int .i64 (dim : Int), .slice A3 (k + (n - (k + 1))) c3], .bool true]) (by simp [results, Try.results26, go_sem, g0, g1]) rfl ?_
        exact RDropPost.new H.out.1 HPLC.out (l2 := l.take k ++ l.drop (k + 1)) rfl (by rw [List.length_append, List.length_take, List.length_drop, ← HN.out]; omega) H3.out.1 (by omega) hbelow (fun g h1 _ => hkeep g (by omega))
/-- What Get says. -/
def RGetPost (l : List Pt) (x : Int) (w : World) (e : Ending) (w' : World) : Prop :=
  Below w.heap.size w w' ∧ ((hasT x (l.map bareP) = false ∧ e = .returned (.tuple #[.slice none 0 0, .int .i64 3])) ∨ (hasT x (l.map bareP) = true ∧ ∃ p ∈ l, p.1 = x ∧ e = .returned (.tuple #[slcP p, .int .i64 0])))
set_option maxHeartbeats 8000000 in
set_option maxRecDepth 100000 in
theorem rget_any {w : World} {P : Nat → Prop} {A : Option Addr} {c dim : Nat} {l : List Pt} (h : DocW w P A c l) (hr : Rise (l.map bareP)) (hl : l.length ≤ 512) (x : Int) :
    Calls Try.prog 27 #[.agg #[.int .i64 (dim : Int), .slice A l.length c], .int .i64 x] w (RGetPost l x w) := by
  obtain ⟨W, hW⟩ : ∃ W, W = w.alloc (.cells #[.int .i64 (dim : Int), .slice A l.length c] 29) := ⟨_, rfl⟩
  have hb0 : Below w.heap.size w W := by rw [hW]; exact (Below.refl _ w).alloc (Nat.le_refl _) _
  have hrow : Row W w.heap.size 29 [.int .i64 (dim : Int), .slice A l.length c] := by rw [hW]; exact Row.new w _ [.int .i64 (dim : Int), .slice A l.length c]
  have hD := h.below hb0
  have hpl := place_any (c := c) hD.toPts (by omega) hr x
  have HW := Lib.hid hW.symm
  have y0 := hrow.cell (j := 0) rfl
  have y1 := hrow.cell (j := 1) rfl
  have yl := hrow.lt
  have HD := Lib.hid (And.intro hD hb0)
  clear h hr hW hb0 hrow hD
  obtain ⟨n, hn⟩ : ∃ n, n = l.length := ⟨_, rfl⟩
  rw [← hn] at hl y1 hpl ⊢
  have HN := Lib.hid hn
  clear hn
  go_enter Try.func27, Try.ntmps27
  go_wp2_with fail
  rw [HN.out, HW.out, ← HN.out]
  refine hpl.mono ?_
  rintro e w2 ⟨k, b, rfl, hplc, q2, rfl⟩
  clear hpl
  have HB2 := Lib.hid (below_drewN HD.out.2 q2)
  cases b with
  | false =>
    have HF := Lib.hid hplc.has
    clear hplc
    go_wp2_with fail
    go_ret2
    exact ⟨HB2.out, .inl ⟨HF.out, rfl⟩⟩
  | true =>
    have hkn1 : k < n := by
      obtain ⟨v, r, e, _⟩ := hplc.yes rfl
      have := congrArg List.length e
      rw [List.length_drop, List.length_map, List.length_cons, ← HN.out] at this
      omega
    have hkz : (k : Int) < (n : Int) := by omega
    have hP := HD.out.1.toPts
    rw [← HN.out] at hP
    obtain ⟨ad, hA, hab, hil, x0, x1, hg⟩ := hP.at_ hkn1
    subst hA
    have hx : (ptAt l k).1 = x := by
      obtain ⟨v, r, e, _⟩ := hplc.yes rfl
      have h1 := bare_at hil
      have h2 : (l.map bareP)[k]? = some (x, v) := by
        have h3 := congrArg (fun z => z[0]?) e
        simpa [List.getElem?_drop] using h3
      rw [h1] at h2
      exact congrArg (fun z : Pnt => z.1) (Option.some.inj h2)
    have HF := Lib.hid (And.intro hplc.has (And.intro (ptAt_mem hil) hx))
    have cl : (ad.add (k * 2)).block < W.heap.size := by rw [block_of_add]; exact hab
    clear hplc hP hab hil hg hx x0
    unfold slcP at *
    generalize hX : ptAt l k = X at *
    clear hX
    go_wp2_with fail
    go_ret2
    exact ⟨HB2.out, .inr ⟨HF.out.1, X, HF.out.2.1, HF.out.2.2, rfl⟩⟩
end Go.Proofs.Ytkgapieikgniiaa
