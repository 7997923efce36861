/- The document's Set. Conditions: its wheel reads as lists as long as each other. -/
import Derived.Test.YtfojempmgonahaaWhRCan
import Derived.Test.YtfojempmgonahaaWhAwk
import Derived.Deep.Cut
set_option linter.unusedVariables false
set_option linter.unusedSimpArgs false
set_option maxRecDepth 100000
namespace Go.Proofs.Ytfojempmgonahaa.Wh
open Go Go.RowKit
/-- A slice that is new since w1. -/
structure New (w1 w2 : World) (A : Option Addr) (n : Nat) (l : List Int) (c : Nat) : Prop where
  held : Held w2 (fun b => b < w1.heap.size) A n l
  le : n ≤ c
  max : c ≤ maxLen
  below : Below w1.heap.size w1 w2
  off : ∀ ad, A = some ad → w1.heap.size ≤ ad.block ∧ ad.block < w2.heap.size
def CutTo (w1 wa : World) (l : List Int) (n : Nat) (e : Ending) (w2 : World) : Prop := ∃ A c, e = .returned (.slice A n c) ∧ New w1 w2 A n l c ∧ Below wa.heap.size wa w2
theorem New.on {w1 w2 w3 : World} {A : Option Addr} {n c : Nat} {l : List Int} (h : New w1 w2 A n l c) (hb : Below w2.heap.size w2 w3) : New w1 w3 A n l c := ⟨h.held.below hb, h.le, h.max, h.below.trans (hb.mono h.below.size), fun ad hA => ⟨(h.off ad hA).1, Nat.lt_of_lt_of_le (h.off ad hA).2 hb.size⟩⟩
theorem cut_to (l x : List Int) (a m : Nat) {w1 wa : World} {A A2 : Option Addr} {n c n2 c2 N : Nat} (hb : Below w1.heap.size w1 wa) (hR : Reads wa wa.heap.size 1 A n (ints l)) (hX : Reads wa wa.heap.size 1 A2 n2 (ints x)) (hn : n ≤ 1000000) (hn2 : n2 ≤ 1000000) (ham : a + m ≤ n) (hnc : n ≤ c) (hcm : c ≤ maxLen) (hN : (cutL l a m x).length = N) :
    Calls Try.prog 23 #[.slice A n c, .int .i64 (a : Int), .int .i64 (m : Int), .slice A2 n2 c2] wa (CutTo w1 wa (cutL l a m x) N) := by
  subst hN
  refine (cut_any l x a m hR hX (Nat.le_refl _) hn hn2 ham hnc hcm).mono ?_
  rintro e w' ⟨A1, c1, rfl, ho, h1, h2, h3⟩
  refine ⟨A1, c1, rfl, ⟨⟨Reads.of_own ho, fun hn ad hA hlt => ?_⟩, h2, h3, hb.trans (h1.mono hb.size), fun ad hA => ⟨Nat.le_trans hb.size (own_addr ho ad hA).1, (own_addr ho ad hA).2⟩⟩, h1⟩
  obtain ⟨g, cap, hv, hg, _⟩ := ho.form hn
  injection hv with hv
  rw [hA] at hv
  injection hv with hv
  subst hv
  have := hb.size
  simp only at hlt
  omega
def iC (x : Int) : Obj := .cells #[.int .i64 x] 3
theorem one_read {V W : World} (x : Int) {N : Nat} (hN : N = V.heap.size) (hb : Below (N + 1) (V.alloc (.cells #[.int .i64 x] 3)) W) : Reads W W.heap.size 1 (some ⟨N, 0, none⟩) 1 (ints [x]) := by
  subst hN
  have h := news_int V [x] (by simp)
  exact (h.below hb).more (by have := hb.size; rw [World.size_alloc] at this; exact this)
theorem setcell_new {w1 w2 : World} {A : Option Addr} {n c : Nat} {l : List Int} (h : New w1 w2 A n l c) {a : Addr} (ha : a.block < w1.heap.size) (u : Value) : Held (w2.setCell a u) (fun b => b < w1.heap.size) A n l := by
  have T : Turn (fun b => b < w1.heap.size) w2 (fun b => b < w1.heap.size) (w2.setCell a u) := Turn.set (fun b => b < w1.heap.size) w2 (a := a) ha u
  exact h.held.turn T
theorem set_fin {w w1 w3 : World} {A3 A4 : Option Addr} {N c3 c4 : Nat} {ids left : List Int} (h2 : New w1 w3 A3 N ids c3) (h3 : New w1 w3 A4 N left c4) (hbw : Below w.heap.size w w1) (hr : Row w3 (w.heap.size + 1) 27 [.slice none 0 0, .slice none 0 0]) (hrl : w.heap.size + 1 < w1.heap.size) :
    let W := (w3.setCell ⟨w.heap.size + 1, 0, none⟩ (.slice A3 N c3)).setCell ⟨w.heap.size + 1, 1, none⟩ (.slice A4 N c4)
    W.cell? ⟨w.heap.size + 1, 0, none⟩ = some (.slice A3 N c3) ∧ W.cell? ⟨w.heap.size + 1, 1, none⟩ = some (.slice A4 N c4) ∧ QAt ⟨ids, left⟩ W W.heap.size A3 N c3 A4 N c4 ∧ Below w.heap.size w W ∧ (∀ A0, Fresh w W A0 A3) ∧ ∀ A0, Fresh w W A0 A4 := by
  intro W
  have r3 := (hr.set 0 (.slice A3 N c3)).set 1 (.slice A4 N c4)
  have T : Turn (fun b => b < w1.heap.size) w3 (fun b => b < w1.heap.size) W :=
    (Turn.set (fun b => b < w1.heap.size) w3 (a := ⟨w.heap.size + 1, 0, none⟩) hrl _).trans (Turn.set (fun b => b < w1.heap.size) _ (a := ⟨w.heap.size + 1, 1, none⟩) hrl _)
  have hbf := below_setCell (below_setCell (hbw.trans (h3.below.mono hbw.size)) (p := ⟨w.heap.size + 1, 0, none⟩) (by simp) (.slice A3 N c3)) (p := ⟨w.heap.size + 1, 1, none⟩) (by simp) (.slice A4 N c4)
  exact ⟨r3.cell rfl, r3.cell rfl, ⟨(h2.held.turn T).reads, (h3.held.turn T).reads, h2.le, h2.max, h3.le, h3.max, rfl⟩, hbf, fun A0 ad hA => .inl ⟨by have := (h2.off ad hA).1; omega, by have := (h2.off ad hA).2; have := T.size; omega⟩, fun A0 ad hA => .inl ⟨by have := (h3.off ad hA).1; omega, by have := (h3.off ad hA).2; have := T.size; omega⟩⟩
set_option maxHeartbeats 4000000 in
theorem rset_do (q : Q) (id t : Int) (m : Nat) {w : World} {B : Nat} {A A2 : Option Addr} {n c n2 c2 : Nat} (h : QAt q w B A n c A2 n2 c2) (hB : B ≤ w.heap.size) (hn : n ≤ 1000000) (ht : 1 ≤ t) (ht2 : t ≤ 1048576) (hm : (m : Int) = (if isAt q.ids id = true then 1 else 0)) (hfull : ¬ (isAt q.ids id = false ∧ 4096 ≤ q.ids.length)) :
    Calls Try.prog 10 #[.agg #[.slice A n c, .slice A2 n2 c2], .int .i64 id, .int .i64 t] w (QPost ⟨cutL q.ids (placeN q.ids id) m [id], cutL q.left (placeN q.ids id) m [t]⟩ (.int .i64 0) A A2 w) := by
  obtain ⟨hR, hR2, hc, hm1, hc2, hm2, rfl⟩ := h
  have hln := hR.len
  have hln2 := hR2.len
  obtain ⟨W, hW⟩ : ∃ W, W = (w.alloc (.cells #[.slice A n2 c, .slice A2 n2 c2] 27)).alloc (.cells #[.slice none 0 0, .slice none 0 0] 27) := ⟨_, rfl⟩
  have hb0 : Below w.heap.size w W := by rw [hW]; exact ((Below.refl _ w).alloc (Nat.le_refl _) _).alloc (by simp) _
  have r1 : Row W w.heap.size 27 [.slice A n2 c, .slice A2 n2 c2] := by
    rw [hW]
    exact (Row.new w 27 [.slice A n2 c, .slice A2 n2 c2]).keep (heap_alloc_lt _ _ (by simp))
  have r2 : Row W (w.heap.size + 1) 27 [.slice none 0 0, .slice none 0 0] := by
    have h := Row.new (w.alloc (.cells #[.slice A n2 c, .slice A2 n2 c2] 27)) 27 [.slice none 0 0, .slice none 0 0]
    rw [World.size_alloc] at h
    rw [hW]
    exact h
  have v0 := r1.cell (j := 0) rfl
  have v1 := r1.cell (j := 1) rfl
  have vl := r1.lt
  have hRW := hR.below (hb0.mono hB)
  have hP := place_any q.ids id (c := c) (c2 := c2) (A2 := A2) (n2 := n2) hRW (Nat.le_trans hB hb0.size) hn
  have HW := Lib.hid hW
  have KR := Lib.hid (fun w1 (hb : Below W.heap.size W w1) => show Row w1 w.heap.size 27 [.slice A n2 c, .slice A2 n2 c2] ∧ Row w1 (w.heap.size + 1) 27 [.slice none 0 0, .slice none 0 0] ∧ Below w.heap.size w w1 from
    ⟨r1.keep (hb.block _ r1.lt), r2.keep (hb.block _ r2.lt), hb0.trans (hb.mono hb0.size)⟩)
  obtain ⟨k, hk⟩ : ∃ k, placeN q.ids id = k := ⟨_, rfl⟩
  have hpl := place_le q.ids id
  obtain ⟨b, hib⟩ : ∃ b, isAt q.ids id = b := ⟨_, rfl⟩
  have hmb : (b = true ∧ m = 1) ∨ (b = false ∧ m = 0 ∧ ¬ (4096 : Int) ≤ (n2 : Int)) := by
    clear hP
    cases b
    · rw [hib] at hm
      have h0 : ¬ 4096 ≤ q.ids.length := fun e => hfull ⟨hib, e⟩
      exact .inr ⟨rfl, by simpa using hm, by omega⟩
    · rw [hib] at hm
      exact .inl ⟨rfl, by simp at hm; omega⟩
  have hkm : k + m ≤ n2 := by
    rcases hmb with ⟨rfl, rfl⟩ | ⟨rfl, rfl, _⟩
    · have := isAt_lt hib
      omega
    · omega
  have L1 := cutL_len (l := q.ids) (a := k) (m := m) (x := [id]) (by omega)
  have L2 := cutL_len (l := q.left) (a := k) (m := m) (x := [t]) (by omega)
  obtain ⟨N, hN1⟩ : ∃ N, (cutL q.ids k m [id]).length = N := ⟨_, rfl⟩
  have hN2 : (cutL q.left k m [t]).length = N := by simp only [List.length_cons, List.length_nil] at L1 L2; omega
  obtain ⟨mi, hmi⟩ : ∃ mi : Int, (m : Int) = mi := ⟨_, rfl⟩
  have C1 := Lib.hid (fun (w1 wa : World) (M : Nat) (h0 : Below w.heap.size w w1) (hb : Below w1.heap.size w1 wa) (hx : Reads wa wa.heap.size 1 (some ⟨M, 0, none⟩) 1 (ints [id])) =>
    show Calls Try.prog 23 #[.slice A n2 c, .int .i64 (k : Int), .int .i64 mi, .slice (some ⟨M, 0, none⟩) 1 1] wa (CutTo w1 wa (cutL q.ids k m [id]) N) from by
      rw [← hmi]
      exact cut_to q.ids [id] k m (c2 := 1) hb ((hR.below ((h0.trans (hb.mono h0.size)).mono hB)).more (Nat.le_trans hB (Nat.le_trans h0.size hb.size))) hx hn (by omega) hkm hc hm1 hN1)
  have C2 := Lib.hid (fun (w1 wa : World) (M : Nat) (h0 : Below w.heap.size w w1) (hb : Below w1.heap.size w1 wa) (hx : Reads wa wa.heap.size 1 (some ⟨M, 0, none⟩) 1 (ints [t])) =>
    show Calls Try.prog 23 #[.slice A2 n2 c2, .int .i64 (k : Int), .int .i64 mi, .slice (some ⟨M, 0, none⟩) 1 1] wa (CutTo w1 wa (cutL q.left k m [t]) N) from by
      rw [← hmi]
      exact cut_to q.left [t] k m (c2 := 1) hb ((hR2.below ((h0.trans (hb.mono h0.size)).mono hB)).more (Nat.le_trans hB (Nat.le_trans h0.size hb.size))) hx hn (by omega) hkm hc2 hm2 hN2)
  have HQ := Lib.hid (And.intro hk (And.intro hN1 hN2))
  rw [hk, hib] at hP
  have HP := Lib.hid hP
  rw [hk]
  have et1 : ¬ t < 1 := by omega
  have et2 : ¬ 1048576 < t := by omega
  clear hW hb0 r1 r2 hR hR2 hRW hP hk hib hpl L1 L2 hln hln2 hN1 hN2 hm hfull ht ht2
  have hmi2 : (b = true ∧ mi = 1) ∨ (b = false ∧ mi = 0 ∧ ¬ (4096 : Int) ≤ (n2 : Int)) := by
    rcases hmb with ⟨h1, h2⟩ | ⟨h1, h2, h3⟩
    · exact .inl ⟨h1, by omega⟩
    · exact .inr ⟨h1, by omega, h3⟩
  clear hmb hmi
  rcases hmi2 with ⟨rfl, rfl⟩ | ⟨rfl, rfl, hlf⟩
  all_goals
    go_enter Try.func10, Try.ntmps10
    go_wp2_with fail
    rw [← HW.out]
    with_reducible refine HP.out.mono ?_
    rintro e w1 ⟨rfl, hb1⟩
    obtain ⟨r1, r2, hbw⟩ := KR.out w1 hb1
    have c0 := r1.cell (j := 0) rfl
    have c1 := r1.cell (j := 1) rfl
    have HX := Lib.hid (fun w' (hb : Below w1.heap.size w1 w') => show w'.cell? ⟨w.heap.size, 0, none⟩ = some (.slice A n2 c) ∧ w'.cell? ⟨w.heap.size, 1, none⟩ = some (.slice A2 n2 c2) ∧ Below w.heap.size w w' ∧ Row w' (w.heap.size + 1) 27 [.slice none 0 0, .slice none 0 0] ∧ w.heap.size < w'.heap.size from
      ⟨(r1.keep (hb.block _ r1.lt)).cell rfl, (r1.keep (hb.block _ r1.lt)).cell rfl, hbw.trans (hb.mono hbw.size), r2.keep (hb.block _ r2.lt), Nat.lt_of_lt_of_le r1.lt hb.size⟩)
    have yl : w.heap.size < w1.heap.size := (HX.out w1 (Below.refl _ _)).2.2.2.2
    have HBW := Lib.hid hbw
    clear hb1 r1 r2 hbw v0 v1 vl
    -- the three worlds at the first call
    have ba0 : Below w1.heap.size w1 (w1.alloc (.cells #[.int .i64 id] 3)) := (Below.refl _ w1).alloc (Nat.le_refl _) _
    have ba : Below w1.heap.size w1 (w1.alloc (.cells #[.int .i64 id] 3)).drew := ba0.drew
    have bb : Below w1.heap.size w1 ((w1.alloc (.cells #[.int .i64 id] 3)).alloc (.cells #[.int .i64 t] 3)).drew := (ba0.alloc (by simp) _).drew
    have bc : Below w1.heap.size w1 ((w1.alloc (.cells #[.int .i64 t] 3)).alloc (.cells #[.int .i64 id] 3)).drew := (((Below.refl _ w1).alloc (Nat.le_refl _) _).alloc (by simp) _).drew
    have D1a := Lib.hid (C1.out w1 _ w1.heap.size HBW.out ba (one_read (V := w1) id rfl (Below.refl _ _).drew))
    have D1b := Lib.hid (C1.out w1 _ w1.heap.size HBW.out bb (one_read (V := w1) id rfl ((Below.refl _ _).alloc (by simp) _).drew))
    have D1c := Lib.hid (C1.out w1 _ (w1.heap.size + 1) HBW.out bc (one_read (V := w1.alloc (.cells #[.int .i64 t] 3)) id (by simp) (Below.refl _ _).drew))
    have D2a := Lib.hid (fun w2 (hb : Below w1.heap.size w1 w2) => C2.out w1 (w2.alloc (.cells #[.int .i64 t] 3)) w2.heap.size HBW.out (hb.alloc hb.size _) (one_read (V := w2) t rfl (Below.refl _ _)))
    have D2b := Lib.hid (fun w2 (hb : Below (w1.heap.size + 2) ((w1.alloc (.cells #[.int .i64 id] 3)).alloc (.cells #[.int .i64 t] 3)).drew w2) => C2.out w1 w2 (w1.heap.size + 1) HBW.out (bb.trans (hb.mono (by omega))) (one_read (V := w1.alloc (.cells #[.int .i64 id] 3)) t (by simp) ((Below.refl _ _).drew.trans (hb.mono (by omega)))))
    have D2c := Lib.hid (fun w2 (hb : Below (w1.heap.size + 2) ((w1.alloc (.cells #[.int .i64 t] 3)).alloc (.cells #[.int .i64 id] 3)).drew w2) => C2.out w1 w2 w1.heap.size HBW.out (bc.trans (hb.mono (by omega))) (one_read (V := w1) t rfl (((Below.refl _ _).alloc (by simp) _).drew.trans (hb.mono (by omega)))))
    have E2 := Lib.hid (fun w2 A3 c3 (h2 : New w1 w2 A3 N (cutL q.ids k m [id]) c3) w3 (hb3 : Below (w2.alloc (.cells #[.int .i64 t] 3)).heap.size (w2.alloc (.cells #[.int .i64 t] 3)) w3) => show New w1 w3 A3 N (cutL q.ids k m [id]) c3 from
      h2.on (((Below.refl _ w2).alloc (Nat.le_refl _) _).trans (hb3.mono (by simp))))
    have HX3 := Lib.hid (fun w3 (hb : Below w1.heap.size w1 w3) => show w3.cell? ⟨w.heap.size, 0, none⟩ = some (.slice A n2 c) ∧ w3.cell? ⟨w.heap.size, 1, none⟩ = some (.slice A2 n2 c2) ∧ w3.cell? ⟨w.heap.size + 1, 0, none⟩ = some (.slice none 0 0) ∧ w3.cell? ⟨w.heap.size + 1, 1, none⟩ = some (.slice none 0 0) ∧ w3.frozen? ⟨w.heap.size + 1, 0, none⟩ = false ∧ w3.frozen? ⟨w.heap.size + 1, 1, none⟩ = false ∧ w.heap.size + 1 < w3.heap.size from by
      obtain ⟨a0, a1, _, r, _⟩ := HX.out w3 hb
      exact ⟨a0, a1, r.cell rfl, r.cell rfl, r.frozen 0, r.frozen 1, r.lt⟩)
    have hub : ((w1.alloc (.cells #[.int .i64 id] 3)).alloc (.cells #[.int .i64 t] 3)).drew.heap.size = w1.heap.size + 2 := by simp
    have huc : ((w1.alloc (.cells #[.int .i64 t] 3)).alloc (.cells #[.int .i64 id] 3)).drew.heap.size = w1.heap.size + 2 := by simp
    have HUB := Lib.hid hub
    have HUC := Lib.hid huc
    clear ba0 ba bb bc hub huc
    go_wp2_with fail
    go_region_held3 (fun w' => w'.cell? ⟨w.heap.size, 0, none⟩ = some (.slice A n2 c) ∧ w'.cell? ⟨w.heap.size, 1, none⟩ = some (.slice A2 n2 c2))
      (first | exact ⟨c0, c1⟩ | exact ⟨d0, d1⟩ | exact ⟨f0, f1⟩ | go_keep)
      (first
        | (go_at_call 23
           with_reducible refine D1a.out.mono ?_
           rintro e w2 ⟨A3, c3, rfl, h2, hb2⟩
           obtain ⟨d0, d1, _, _, dl⟩ := HX.out w2 h2.below)
        | (go_at_call 23
           with_reducible refine D1b.out.mono ?_
           rintro e w2 ⟨A3, c3, rfl, h2, hb2⟩
           rw [HUB.out] at hb2
           obtain ⟨d0, d1, _, _, dl⟩ := HX.out w2 h2.below)
        | (go_at_call 23
           with_reducible refine D1c.out.mono ?_
           rintro e w2 ⟨A3, c3, rfl, h2, hb2⟩
           rw [HUC.out] at hb2
           obtain ⟨d0, d1, _, _, dl⟩ := HX.out w2 h2.below)
        | (go_at_call 23
           with_reducible refine (D2a.out w2 h2.below).mono ?_
           rintro e w3 ⟨A4, c4, rfl, h3, hb3⟩
           have H3 := Lib.hid (And.intro (E2.out w2 A3 c3 h2 w3 hb3) h3)
           obtain ⟨f0, f1, z0, z1, y0, y1, zl⟩ := HX3.out w3 h3.below
           clear h3 hb3)
        | (go_at_call 23
           with_reducible refine (D2b.out w2 hb2).mono ?_
           rintro e w3 ⟨A4, c4, rfl, h3, hb3⟩
           have H3 := Lib.hid (And.intro (h2.on hb3) h3)
           obtain ⟨f0, f1, z0, z1, y0, y1, zl⟩ := HX3.out w3 h3.below
           clear h3 hb3)
        | (go_at_call 23
           with_reducible refine (D2c.out w2 hb2).mono ?_
           rintro e w3 ⟨A4, c4, rfl, h3, hb3⟩
           have H3 := Lib.hid (And.intro (h2.on hb3) h3)
           obtain ⟨f0, f1, z0, z1, y0, y1, zl⟩ := HX3.out w3 h3.below
           clear h3 hb3))
    all_goals go_wp2
    all_goals
      obtain ⟨g0, g1, hq, hbf, hf1, hf2⟩ := set_fin H3.out.1 H3.out.2 HBW.out (HX.out w3 H3.out.2.below).2.2.2.1 (HX.out w1 (Below.refl _ _)).2.2.2.1.lt
      refine bodyPost_ret (v := .tuple #[.agg #[.slice A3 N c3, .slice A4 N c4], .int .i64 0]) (by simp [results, Try.results10, go_sem, g0, g1]) rfl ?_
      exact ⟨A3, N, c3, A4, N, c4, rfl, hq, hbf, hf1 _, hf2 _⟩
end Go.Proofs.Ytfojempmgonahaa.Wh
