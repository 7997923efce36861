/- VptreeNear: the nearest ones are those of a search over all. Conditions: the slices read as points and as numbers. -/
import Derived.Test.YtkgapieikgniiaaVDocC
import Derived.Test.YtkgapieikgniiaaVSelf
set_option linter.unusedVariables false
set_option linter.unusedSimpArgs false
namespace Go.Proofs.Ytkgapieikgniiaa
open Go Go.RowKit Go.Maps
/-- The document's tree beside a tree of the program's. -/
def DocIn (w : World) (F : Nat → Prop) (A : Option Addr) (c : Nat) (l : List Pt) : Prop := DocW w (fun b => b < w.heap.size ∧ ¬ F b) A c l
section
variable {w w' : World} {F F' : Nat → Prop} {A : Option Addr} {c : Nat} {l : List Pt} {p : Pt}
theorem DocIn.below (h : DocIn w F A c l) (hb : Below w.heap.size w w') : DocIn w' F A c l :=
  (DocW.keep h (fun b hP => hb.block b hP.1) hb.size).more (fun b hP => ⟨Nat.lt_of_lt_of_le hP.1 hb.size, hP.2⟩) (fun b hP => hP.1)
theorem DocIn.turn (h : DocIn w F A c l) (k : Turn F w F' w') : DocIn w' F' A c l :=
  (DocW.keep h (fun b hP => k.block b hP.1 hP.2) k.size).more (fun b hP => ⟨Nat.lt_of_lt_of_le hP.1 k.size, fun hF => (k.foot b hF).elim hP.2 (fun h2 => by omega)⟩) (fun b hP => hP.1)
theorem DocIn.new (h : DocW w' (NewP (fun b => b < w.heap.size ∧ ¬ F b) w w') A c l) (hF : ∀ b, F b → b < w.heap.size) (hs : w.heap.size ≤ w'.heap.size) : DocIn w' F A c l :=
  h.more (fun b hP => hP.elim (fun h1 => ⟨by omega, h1.2⟩) (fun h1 => ⟨h1.2, fun hf => by have := hF b hf; omega⟩)) (fun b hP => hP.1)
end
theorem t_put_turn {b0 : Nat} {w0 w : World} {F : Nat → Prop} {t : Nat} {T : List Pnt} {dim : Nat} (h : Mine b0 w0 w F t dim T) {x : Int} {A : Option Addr} {n c C : Nat} {l : List Int} (hx : (Lit.int .i64 x).wf = true) (hR : Reads w C 1 A n (ints l)) (hC : C ≤ w.heap.size) (hn : n ≤ maxLen) (hA : 0 < n → ∀ ad, A = some ad → ¬ F ad.block) :
    Calls Try.prog 19 #[.pointer (some ⟨t, 0, none⟩), .agg #[.int .i64 x, .slice A n c]] w fun e w' => e = .returned (.tuple #[.bool (putA dim x l T).1, .int .i64 (putA dim x l T).2]) ∧ ∃ F', Mine b0 w0 w' F' t dim (putR dim x l T) ∧ Turn F w F' w' := by
  unfold putA putR
  by_cases hk : ck l dim = 0
  · by_cases hf : hasT x T = true ∨ T.length < 512
    · rw [if_pos hk, if_pos hf, if_pos ⟨hk, hf⟩]
      refine (t_put h.tree hx hR hC hn (hA (by have := hR.len; have := (ck_len hk).1; rw [okV_iff] at this; omega)) hk hf).mono ?_
      rintro e w' ⟨rfl, F', ht, hT⟩
      exact ⟨rfl, F', h.turn ht hT, hT⟩
    · rw [if_pos hk, if_neg hf, if_neg (fun hh => hf hh.2)]
      refine (t_put_full h.tree hx hR hC hn hk (by
        cases hh : hasT x T with
        | true => exact absurd (.inl hh) hf
        | false => rfl) (by omega)).mono ?_
      rintro e w' ⟨rfl, ht, hT⟩
      exact ⟨rfl, F, h.turn ht hT, hT⟩
  · rw [if_neg hk, if_neg (fun hh => hk hh.1)]
    refine (t_put_bad h.tree hR hC hn ((ck_or l dim).resolve_left hk)).mono ?_
    rintro e w' ⟨rfl, ht, hT⟩
    exact ⟨rfl, F, h.turn ht hT, hT⟩
theorem turn_or {F F' : Nat → Prop} {w w' : World} (h : Turn F w F' w') (q : Nat) : Turn (fun b => F b ∨ b = q) w (fun b => F' b ∨ b = q) w' :=
  ⟨h.os, h.tape, h.output, h.size, fun b hb hf => h.block b hb (fun h1 => hf (.inl h1)), fun b hb => hb.elim (fun h1 => (h.foot b h1).imp .inl id) (fun h1 => .inl (.inr h1))⟩
theorem reads_turn {w w' : World} {F F' : Nat → Prop} {B size m : Nat} {A : Option Addr} {xs : List Value} (h : Reads w B size A m xs) (k : Turn F w F' w') (hB : B ≤ w.heap.size) (hA : ∀ ad, A = some ad → 0 < m → ¬ F ad.block) : Reads w' B size A m xs :=
  ⟨h.1, fun h0 => by
    obtain ⟨ad, e, hb, hc⟩ := h.2 h0
    exact ⟨ad, e, hb, fun j u hj => (World.cell?_of_block (by rw [block_of_add]; exact k.block _ (by omega) (hA ad e h0))).trans (hc j u hj)⟩⟩
theorem mine_build_turn {b0 : Nat} {w0 w : World} {F : Nat → Prop} {t : Nat} {T : List Pnt} {dim : Nat} (h : Mine b0 w0 w F t dim T) :
    Calls Try.prog 22 #[.pointer (some ⟨t, 0, none⟩)] w fun e w' => e = .returned (.int .i64 0) ∧ ∃ F', Mine b0 w0 w' F' t dim T ∧ Turn F w F' w' :=
  (t_build h.tree).mono fun e w' ⟨he, F', ht, hT⟩ => ⟨he, F', h.turn ht hT, hT⟩
set_option maxHeartbeats 1000000 in
theorem rnew8_any (dim : Nat) (w : World) (h1 : 1 ≤ dim) (h2 : dim ≤ 16) : Calls Try.prog 12 #[.int .i64 (dim : Int)] w fun e w' => e = .returned (.tuple #[.agg #[.int .i64 (dim : Int), .slice none 0 0], .int .i64 0]) ∧ Below w.heap.size w w' := by
  have z1 : ¬ (dim : Int) < 1 := by omega
  have z2 : ¬ (16 : Int) < (dim : Int) := by omega
  have hb : Below w.heap.size w (((w.alloc (.cells #[.int .i64 0, .slice none 0 0] 29)).setCell ⟨w.heap.size, 0, none⟩ (.int .i64 (dim : Int))).setCell ⟨w.heap.size, 1, none⟩ (.slice none 0 0)) :=
    below_setCell (below_setCell ((Below.refl _ w).alloc (Nat.le_refl _) _) (Nat.le_refl _) _) (Nat.le_refl _) _
  have r0 := Row.new w 29 [.int .i64 0, .slice none 0 0]
  have x0 := r0.cell (j := 0) rfl
  have x1 := r0.cell (j := 1) rfl
  have xl := r0.lt
  have hs := (r0.set 0 (.int .i64 (dim : Int))).set 1 (.slice none 0 0)
  have HB := Lib.hid hb
  have HS := Lib.hid hs
  clear r0 hb hs h1 h2
  go_enter Try.func12, Try.ntmps12
  go_wp2_with fail
  have g0 := HS.out.cell (j := 0) rfl
  have g1 := HS.out.cell (j := 1) rfl
  refine bodyPost_ret (v := .tuple #[.agg #[.int .i64 (dim : Int), .slice none 0 0], .int .i64 0]) (by simp [results, Try.results12, go_sem, g0, g1]) rfl ?_
  exact ⟨rfl, by first | exact HB.out | exact (Below.refl _ w).alloc (Nat.le_refl _) _ | exact below_setCell (below_setCell ((Below.refl _ w).alloc (Nat.le_refl _) _) (Nat.le_refl _) _) (Nat.le_refl _) _⟩
structure DocBox (wr wc : World) (F : Nat → Prop) (nb dim : Nat) (A : Option Addr) (c : Nat) (l : List Pt) (T : List Pnt) : Prop where
  le : wr.heap.size ≤ nb
  row : Row wc nb 29 [.int .i64 (dim : Int), .slice A l.length c]
  doc : DocIn wc F A c l
  map : l.map bareP = T
  below : Below wr.heap.size wr wc
/-- The document's tree behind a Put: its blocks are those that were, and new ones. -/
theorem docBox_new {wr W w8 : World} {F : Nat → Prop} {dim : Nat} {A : Option Addr} {c : Nat} {l : List Pt} {T : List Pnt} (hF : ∀ b, F b → b < wr.heap.size) (hW : Below wr.heap.size wr W) (h : DocW w8 (NewP (fun b => b < wr.heap.size ∧ ¬ F b) W w8) A c l) (hm : l.map bareP = T) (hb : Below W.heap.size W w8) :
    DocBox wr (w8.alloc (.cells #[.int .i64 (dim : Int), .slice A l.length c] 29)) F w8.heap.size dim A c l T := by
  have hb' : Below wr.heap.size wr w8 := hW.trans (hb.mono hW.size)
  have h8 : DocIn w8 F A c l := h.more (fun b hP => hP.elim (fun h1 => ⟨Nat.lt_of_lt_of_le h1.1 hb'.size, h1.2⟩) (fun h1 => ⟨h1.2, fun hf => by have := hF b hf; have := hW.size; omega⟩)) (fun b hP => hP.1)
  exact ⟨hb'.size, Row.new w8 _ [.int .i64 (dim : Int), .slice A l.length c], h8.below ((Below.refl _ w8).alloc (Nat.le_refl _) _), hm, hb'.alloc hb'.size _⟩
theorem docBox_old {wr W w8 : World} {F : Nat → Prop} {dim : Nat} {A : Option Addr} {c : Nat} {l : List Pt} {T : List Pnt} (hF : ∀ b, F b → b < wr.heap.size) (hWe : W = (wr.alloc (.cells #[.int .i64 0, .slice none 0 0] 29)).drew) (h : DocW w8 (NewP (fun b => b < wr.heap.size ∧ ¬ F b) W w8) A c l) (hm : l.map bareP = T) (hb : Below W.heap.size W w8) :
    DocBox wr ((w8.setCell ⟨wr.heap.size, 0, none⟩ (.int .i64 (dim : Int))).setCell ⟨wr.heap.size, 1, none⟩ (.slice A l.length c)) F wr.heap.size dim A c l T := by
  have hs : W.heap.size = wr.heap.size + 1 := by rw [hWe]; show (wr.alloc _).heap.size = _; simp
  have hW : Below wr.heap.size wr W := by rw [hWe]; exact below_drewN ((Below.refl _ wr).alloc (Nat.le_refl _) _) 1
  have hb' : Below wr.heap.size wr w8 := hW.trans (hb.mono hW.size)
  have hrow : Row w8 wr.heap.size 29 [.int .i64 0, .slice none 0 0] := by
    have h0 : Row W wr.heap.size 29 [.int .i64 0, .slice none 0 0] := by rw [hWe]; exact Row.new wr _ [.int .i64 0, .slice none 0 0]
    exact h0.keep (hb.block _ (by omega))
  have hk : ∀ b, b ≠ wr.heap.size → ((w8.setCell ⟨wr.heap.size, 0, none⟩ (.int .i64 (dim : Int))).setCell ⟨wr.heap.size, 1, none⟩ (.slice A l.length c)).heap[b]? = w8.heap[b]? := fun b hb2 => (heap_set_ne _ _ _ hb2).trans (heap_set_ne _ _ _ hb2)
  refine ⟨Nat.le_refl _, (hrow.set 0 _).set 1 _, ?_, hm, below_setCell (below_setCell hb' (Nat.le_refl _) _) (Nat.le_refl _) _⟩
  refine (DocW.keep h (fun b hP => hk b (fun e => ?_)) (by simp)).more (fun b hP => ?_) (fun b hP => hP.1)
  · subst e
    rcases hP with hP | hP
    · exact absurd hP.1 (Nat.lt_irrefl _)
    · omega
  · have hsz : ((w8.setCell ⟨wr.heap.size, 0, none⟩ (.int .i64 (dim : Int))).setCell ⟨wr.heap.size, 1, none⟩ (.slice A l.length c)).heap.size = w8.heap.size := by simp
    have := hb'.size
    exact hP.elim (fun h1 => ⟨by omega, h1.2⟩) (fun h1 => ⟨by omega, fun hf => by have := hF b hf; omega⟩)
theorem old_cells {wr W w8 : World} (hWe : W = (wr.alloc (.cells #[.int .i64 0, .slice none 0 0] 29)).drew) (hb : Below W.heap.size W w8) : Row w8 wr.heap.size 29 [.int .i64 0, .slice none 0 0] := by
  have hs : W.heap.size = wr.heap.size + 1 := by rw [hWe]; show (wr.alloc _).heap.size = _; simp
  have h0 : Row W wr.heap.size 29 [.int .i64 0, .slice none 0 0] := by rw [hWe]; exact Row.new wr _ [.int .i64 0, .slice none 0 0]
  exact h0.keep (hb.block _ (by omega))
set_option maxHeartbeats 8000000 in
set_option maxRecDepth 100000 in
theorem vptreeNear_walk (A0 : Option Addr) (n0 c0 : Nat) (l0 : List Pt) (A1 : Option Addr) (n1 c1 : Nat) (l1 : List Int) (x y : Int) (w : World) (hP0 : Pts w w.heap.size A0 n0 l0) (hm0 : n0 ≤ maxLen) (hR1 : Reads w w.heap.size 1 A1 n1 (ints l1)) (hm1 : n1 ≤ maxLen) (hxy : (-9223372036854775808 ≤ x ∧ x ≤ 9223372036854775807)) (hxy2 : (-9223372036854775808 ≤ y ∧ y ≤ 9223372036854775807)) :
    Calls Try.prog 4 #[.slice A0 n0 c0, .slice A1 n1 c1, .agg #[.int .i64 x, .int .i64 y]] w (Gives (.bool true) w) := by
  have HAW := Lib.hid awake_any
  clear hxy hxy2
  have HP0 := Lib.hid hP0
  have HR1 := Lib.hid (And.intro hR1 hm1)
  unfold maxLen at hm0
  clear hP0 hR1 hm1
  obtain ⟨W1, hW1⟩ : ∃ W1, W1 = w.alloc (.cells #[.int .i64 x, .int .i64 y] 44) := ⟨_, rfl⟩
  have b1 : Below w.heap.size w W1 := by rw [hW1]; exact (Below.refl _ w).alloc (Nat.le_refl _) _
  have s1 : W1.heap.size = w.heap.size + 1 := by rw [hW1]; simp
  have r1 : Row W1 w.heap.size 44 [.int .i64 x, .int .i64 y] := by rw [hW1]; exact Row.new w _ [.int .i64 x, .int .i64 y]
  have hnew := vnew_any 2 W1 (by omega) (by omega)
  have HW := Lib.hid hW1.symm
  have HB := Lib.hid (And.intro b1 (And.intro s1 r1))
  clear b1 s1 r1 hW1
  go_enter Try.func4, Try.ntmps4
  go_wp2_with fail
  rw [HW.out]
  refine hnew.mono ?_
  rintro e w2 ⟨F2, t, rfl, ht2, hF2, hb2⟩
  have HT2 := Lib.hid (Mine.new (Below.refl _ W1) (Nat.le_refl _) ht2 hF2 hb2)
  have ea := tpeql_none t
  clear ht2 hF2 hb2 hnew
  by_cases h200 : 200 < n0
  · have hz : (200 : Int) < (n0 : Int) := by omega
    go_wp2_with fail
    refine (HAW.out _).mono ?_
    rintro e w4 ⟨rfl, hb4⟩
    go_wp2_with fail
    go_ret
    exact ⟨rfl, HB.out.1.trans ((HT2.out.under hb4).below.mono HB.out.1.size)⟩
  · have hz : ¬ (200 : Int) < (n0 : Int) := by omega
    have hrn := rnew8_any 2 w2 (by omega) (by omega)
    go_wp2_with fail
    refine hrn.mono ?_
    rintro e w3 ⟨rfl, hb3⟩
    have M3 := HT2.out.under hb3
    have M4 := M3.under ((Below.refl _ w3).alloc (Nat.le_refl _) (.cells #[.int .i64 2, .slice none 0 0] 29))
    have D4 : DocIn (w3.alloc (.cells #[.int .i64 2, .slice none 0 0] 29)) (fun b => F2 b ∨ b = w3.heap.size) none 0 [] := DocW.nil (fun b hb => hb.1)
    have R4 := Row.new w3 29 [.int .i64 2, .slice none 0 0]
    have hqb : W1.heap.size ≤ w3.heap.size := M3.le
    have hqF : ¬ F2 w3.heap.size := fun hF => by have := M3.tree.lt _ hF; omega
    have H4 := Lib.hid (And.intro M4 (And.intro D4 (And.intro R4 hqF)))
    clear M3 M4 D4 R4 hrn hb3 hqF
    go_wp2_with fail
    generalize hq : w3.heap.size = qb at *
    have HQ := Lib.hid hq
    have HQB : Hid (W1.heap.size ≤ qb) := Lib.hid hqb
    clear hq
    go_loopg [11] n0 (fun gx vi wr => ∃ (i : Nat) (F : Nat → Prop) (A : Option Addr) (c : Nat) (l : List Pt), i ≤ n0 ∧ n0 - i ≤ gx ∧ vi = .int .i64 i ∧ Hid (Mine W1.heap.size W1 wr F t 2 (l.map bareP) ∧ DocIn wr (fun b => F b ∨ b = qb) A c l ∧ Row wr qb 29 [.int .i64 2, .slice A l.length c] ∧ ¬ F qb))
    case atStart => exact ⟨0, F2, none, 0, [], by omega, by omega, rfl, H4⟩
    case round =>
      obtain ⟨i, F, A, c, l, hi, hgx, rfl, HT⟩ := hrel
      clear H4
      by_cases hlt : i < n0
      · have hltz : (i : Int) < (n0 : Int) := by omega
        have hbw : Below w.heap.size w wr := HB.out.1.trans (HT.out.1.below.mono HB.out.1.size)
        obtain ⟨ad, hA, hab, hil, x0, x1, hg⟩ := (HP0.out.below hbw).at_ hlt
        subst hA
        have hadl : (ad.add (i * 2)).block < w.heap.size := by rw [block_of_add]; exact hab
        have hwr : w.heap.size ≤ wr.heap.size := hbw.size
        have cl : (ad.add (i * 2)).block < wr.heap.size := by omega
        have hFw : ∀ b, F b → w.heap.size ≤ b := fun b hb => Nat.le_trans HB.out.1.size (HT.out.1.up b hb)
        have hqw : w.heap.size ≤ qb := by have := HB.out.1.size; omega
        obtain ⟨G, hG⟩ : ∃ G : Nat → Prop, G = fun b => F b ∨ b = qb := ⟨_, rfl⟩
        have hGw : ∀ b, G b → w.heap.size ≤ b := fun b hb => by rw [hG] at hb; exact hb.elim (hFw b) (fun e => by omega)
        have HTG : Hid (DocIn wr G A c l) := Lib.hid (by rw [hG]; exact HT.out.2.1)
        have HG := Lib.hid hG
        clear hG
        have hpin : PtIn wr (fun b => b < wr.heap.size ∧ ¬ G b) (ptAt l0 i) := ⟨hg.1.1.len, fun h0 => by
            obtain ⟨a', e, hb', hc'⟩ := hg.1.1.2 (by rw [hg.1.1.len]; exact h0)
            exact ⟨a', e, ⟨by omega, fun hF => by have := hGw _ hF; omega⟩, hc'⟩, by rw [← hg.1.1.len]; exact hg.1.2, hg.2⟩
        have hrise : Rise (l.map bareP) := HT.out.1.tree.rise
        have hlen : l.length ≤ 512 := by have := HT.out.1.tree.len; simpa using this
        have y0 := HT.out.2.2.1.cell (j := 0) rfl
        have y1 := HT.out.2.2.1.cell (j := 1) rfl
        have ylt := HT.out.2.2.1.lt
        have hrp : ∀ W : World, Below wr.heap.size wr W → Calls Try.prog 18 #[.agg #[.int .i64 2, .slice A l.length c], .agg #[.int .i64 (ptAt l0 i).1, .slice (ptAt l0 i).2.1.1 (ptAt l0 i).2.1.2.1 (ptAt l0 i).2.1.2.2]] W (RPutPost (fun b => b < wr.heap.size ∧ ¬ G b) 2 l (ptAt l0 i).1 (ptAt l0 i).2.2 W) := fun W hW =>
          rput_any (dim := 2) (DocW.keep HTG.out (fun b hP => hW.block b hP.1) hW.size) hrise hlen (hpin.keep (fun b hP => hW.block b hP.1))
        have HPP := Lib.hid (And.intro hpin (And.intro hg (And.intro hbw (And.intro hFw hqw))))
        have HAB := Lib.hid (And.intro hadl hwr)
        clear hrise hlen hpin hab hil hbw hFw hg hGw hqw
        generalize hX : ptAt l0 i = X at *
        have HX := Lib.hid hX
        clear hX
        obtain ⟨px, ⟨pA, pn, pc⟩, pv⟩ := X
        simp only at x0 x1 hrp
        have HKP := Lib.hid (show ∀ w' : World, Below wr.heap.size wr w' → w'.cell? ⟨qb, 0, none⟩ = some (.int .i64 2) ∧ w'.cell? ⟨qb, 1, none⟩ = some (.slice A l.length c) ∧ w'.cell? (ad.add (i * 2)) = some (.int .i64 px) ∧ w'.cell? ⟨(ad.add (i * 2)).block, (ad.add (i * 2)).off + 1, none⟩ = some (.slice pA pn pc) from fun w' hb => ⟨(hb.cell (by exact ylt)).trans y0, (hb.cell (by exact ylt)).trans y1, (hb.cell (by exact cl)).trans x0, (hb.cell (by exact cl)).trans x1⟩)
        have HFL := Lib.hid (show ∀ b, G b → b < wr.heap.size from fun b hb => by rw [HG.out] at hb; exact hb.elim (HT.out.1.tree.lt b) (fun e => by rw [e]; exact ylt))
        have hrp1 := hrp wr.drew (below_drewN (Below.refl _ wr) 1)
        have hrp2 := hrp ((wr.alloc (.cells #[.int .i64 0, .slice none 0 0] 29)).drew) (below_drewN ((Below.refl _ wr).alloc (Nat.le_refl _) _) 1)
        clear hrp
        generalize hlen : l.length = ln at *
        have HLN := Lib.hid hlen
        clear hlen
        have HKS := Lib.hid (show ∀ (W : World) (u v : Value), wr.heap.size ≤ W.heap.size → (W.cell? ⟨qb, 0, none⟩ = some (.int .i64 2) ∧ W.cell? ⟨qb, 1, none⟩ = some (.slice A ln c) ∧ W.cell? (ad.add (i * 2)) = some (.int .i64 px) ∧ W.cell? ⟨(ad.add (i * 2)).block, (ad.add (i * 2)).off + 1, none⟩ = some (.slice pA pn pc)) → ((W.setCell ⟨wr.heap.size, 0, none⟩ u).setCell ⟨wr.heap.size, 1, none⟩ v).cell? ⟨qb, 0, none⟩ = some (.int .i64 2) ∧ ((W.setCell ⟨wr.heap.size, 0, none⟩ u).setCell ⟨wr.heap.size, 1, none⟩ v).cell? ⟨qb, 1, none⟩ = some (.slice A ln c) ∧ ((W.setCell ⟨wr.heap.size, 0, none⟩ u).setCell ⟨wr.heap.size, 1, none⟩ v).cell? (ad.add (i * 2)) = some (.int .i64 px) ∧ ((W.setCell ⟨wr.heap.size, 0, none⟩ u).setCell ⟨wr.heap.size, 1, none⟩ v).cell? ⟨(ad.add (i * 2)).block, (ad.add (i * 2)).off + 1, none⟩ = some (.slice pA pn pc) from fun W u v _ h => by
          have e : ∀ (a : Addr), a.block < wr.heap.size → ((W.setCell ⟨wr.heap.size, 0, none⟩ u).setCell ⟨wr.heap.size, 1, none⟩ v).cell? a = W.cell? a := fun a ha => by
            rw [World.cell?_setCell_other _ _ _ _ (fun e => by subst e; simp only at ha; omega), World.cell?_setCell_other _ _ _ _ (fun e => by subst e; simp only at ha; omega)]
          exact ⟨(e ⟨qb, 0, none⟩ ylt).trans h.1, (e ⟨qb, 1, none⟩ ylt).trans h.2.1, (e _ cl).trans h.2.2.1, (e ⟨(ad.add (i * 2)).block, (ad.add (i * 2)).off + 1, none⟩ cl).trans h.2.2.2⟩)
        have HKA := Lib.hid (show ∀ (W : World) (o : Obj), wr.heap.size ≤ W.heap.size → (W.cell? ⟨qb, 0, none⟩ = some (.int .i64 2) ∧ W.cell? ⟨qb, 1, none⟩ = some (.slice A ln c) ∧ W.cell? (ad.add (i * 2)) = some (.int .i64 px) ∧ W.cell? ⟨(ad.add (i * 2)).block, (ad.add (i * 2)).off + 1, none⟩ = some (.slice pA pn pc)) → (W.alloc o).cell? ⟨qb, 0, none⟩ = some (.int .i64 2) ∧ (W.alloc o).cell? ⟨qb, 1, none⟩ = some (.slice A ln c) ∧ (W.alloc o).cell? (ad.add (i * 2)) = some (.int .i64 px) ∧ (W.alloc o).cell? ⟨(ad.add (i * 2)).block, (ad.add (i * 2)).off + 1, none⟩ = some (.slice pA pn pc) from fun W o hs h => by
          have e : ∀ (a : Addr), a.block < wr.heap.size → (W.alloc o).cell? a = W.cell? a := fun a ha => World.cell?_alloc_lt W o a (by omega)
          exact ⟨(e ⟨qb, 0, none⟩ ylt).trans h.1, (e ⟨qb, 1, none⟩ ylt).trans h.2.1, (e _ cl).trans h.2.2.1, (e ⟨(ad.add (i * 2)).block, (ad.add (i * 2)).off + 1, none⟩ cl).trans h.2.2.2⟩)
        have HX1 := Lib.hid (show ∀ (w8 : World) (A' : Option Addr) (c' : Nat) (l' : List Pt), DocW w8 (NewP (fun b => b < wr.heap.size ∧ ¬ G b) wr.drew w8) A' c' l' → l'.map bareP = putR 2 px pv (l.map bareP) → Below wr.drew.heap.size wr.drew w8 → DocBox wr (w8.alloc (.cells #[.int .i64 ((2 : Nat) : Int), .slice A' l'.length c'] 29)) G w8.heap.size 2 A' c' l' (putR 2 px pv (l.map bareP)) ∧ (w8.cell? ⟨qb, 0, none⟩ = some (.int .i64 2) ∧ w8.cell? ⟨qb, 1, none⟩ = some (.slice A ln c) ∧ w8.cell? (ad.add (i * 2)) = some (.int .i64 px) ∧ w8.cell? ⟨(ad.add (i * 2)).block, (ad.add (i * 2)).off + 1, none⟩ = some (.slice pA pn pc)) ∧ wr.heap.size ≤ w8.heap.size from fun w8 A' c' l' h1 h2 h3 => by
          have hb9 : Below wr.heap.size wr w8 := (show Below wr.heap.size wr wr.drew from below_drewN (Below.refl _ wr) 1).trans (show Below wr.heap.size wr.drew w8 from h3)
          exact ⟨docBox_new (dim := 2) (W := wr.drew) HFL.out (below_drewN (Below.refl _ wr) 1) h1 h2 h3, HKP.out w8 hb9, hb9.size⟩)
        have HX2 := Lib.hid (show ∀ (w8 : World) (A' : Option Addr) (c' : Nat) (l' : List Pt), DocW w8 (NewP (fun b => b < wr.heap.size ∧ ¬ G b) ((wr.alloc (.cells #[.int .i64 0, .slice none 0 0] 29)).drew) w8) A' c' l' → l'.map bareP = putR 2 px pv (l.map bareP) → Below ((wr.alloc (.cells #[.int .i64 0, .slice none 0 0] 29)).drew).heap.size ((wr.alloc (.cells #[.int .i64 0, .slice none 0 0] 29)).drew) w8 → DocBox wr ((w8.setCell ⟨wr.heap.size, 0, none⟩ (.int .i64 ((2 : Nat) : Int))).setCell ⟨wr.heap.size, 1, none⟩ (.slice A' l'.length c')) G wr.heap.size 2 A' c' l' (putR 2 px pv (l.map bareP)) ∧ (w8.cell? ⟨qb, 0, none⟩ = some (.int .i64 2) ∧ w8.cell? ⟨qb, 1, none⟩ = some (.slice A ln c) ∧ w8.cell? (ad.add (i * 2)) = some (.int .i64 px) ∧ w8.cell? ⟨(ad.add (i * 2)).block, (ad.add (i * 2)).off + 1, none⟩ = some (.slice pA pn pc)) ∧ wr.heap.size ≤ w8.heap.size ∧ Row w8 wr.heap.size 29 [.int .i64 0, .slice none 0 0] from fun w8 A' c' l' h1 h2 h3 => by
          have hb9 : Below wr.heap.size wr w8 := (show Below wr.heap.size wr ((wr.alloc (.cells #[.int .i64 0, .slice none 0 0] 29)).drew) from below_drewN ((Below.refl _ wr).alloc (Nat.le_refl _) _) 1).trans (h3.mono (by show wr.heap.size ≤ (wr.alloc _).heap.size; simp))
          exact ⟨docBox_old (dim := 2) HFL.out rfl h1 h2 h3, HKP.out w8 hb9, hb9.size, old_cells rfl h3⟩)
        go_upto_region 8 with fail
        go_cut [12, 13, 14] from 57 to 66 (fun s12 s13 s14 wc => ∃ (nb : Nat) (A' : Option Addr) (c' : Nat) (l' : List Pt), s12 = .pointer (some ⟨nb, 0, none⟩) ∧ s13 = .bool (putA 2 px pv (l.map bareP)).1 ∧ s14 = .int .i64 (putA 2 px pv (l.map bareP)).2 ∧ Hid (DocBox wr wc G nb 2 A' c' l' (putR 2 px pv (l.map bareP))))
        case first =>
          go_region_held3 (fun w' => w'.cell? ⟨qb, 0, none⟩ = some (.int .i64 2) ∧ w'.cell? ⟨qb, 1, none⟩ = some (.slice A ln c) ∧ w'.cell? (ad.add (i * 2)) = some (.int .i64 px) ∧ w'.cell? ⟨(ad.add (i * 2)).block, (ad.add (i * 2)).off + 1, none⟩ = some (.slice pA pn pc)) (first | exact ⟨y0, y1, x0, x1⟩ | exact HS8.out | exact HKA.out _ _ HSZ8.out HS8.out | exact HKS.out _ _ _ HSZ8.out HS8.out | go_keep)
            (first
              | (go_at_call 18; with_reducible refine hrp1.mono ?_; intro e w8 hpost; unfold RPutPost at hpost; obtain ⟨A', c', l', rfl, hdoc, hmap, hb8⟩ := hpost; have HPO := Lib.hid (HX1.out w8 A' c' l' hdoc hmap hb8); have HS8 := Lib.hid HPO.out.2.1; have HSZ8 := Lib.hid HPO.out.2.2; clear hdoc hmap hb8)
              | (go_at_call 18; with_reducible refine hrp2.mono ?_; intro e w8 hpost; unfold RPutPost at hpost; obtain ⟨A', c', l', rfl, hdoc, hmap, hb8⟩ := hpost; have HPO := Lib.hid (HX2.out w8 A' c' l' hdoc hmap hb8); have hob := HPO.out.2.2.2; have o0 := hob.cell (j := 0) rfl; have o1 := hob.cell (j := 1) rfl; have of0 := hob.frozen 0; have of1 := hob.frozen 1; have ol := hob.lt; have HS8 := Lib.hid HPO.out.2.1; have HSZ8 := Lib.hid HPO.out.2.2.1; clear hdoc hmap hb8 hob))
          all_goals
            go_wp2_with fail
            go_meet
            exact ⟨_, A', c', l', rfl, rfl, rfl, Lib.hid HPO.out.1⟩
        case rest =>
          obtain ⟨nb, A', c', l', rfl, rfl, rfl, HC⟩ := hcut
          have M9 := HT.out.1.under HC.out.below
          have hg := HPP.out.2.1
          have hx0 := (HC.out.below.cell (p := ad.add (i * 2)) cl).trans x0
          have hx1 := (HC.out.below.cell (p := ⟨(ad.add (i * 2)).block, (ad.add (i * 2)).off + 1, none⟩) cl).trans x1
          have hcl : (ad.add (i * 2)).block < wc.heap.size := Nat.lt_of_lt_of_le cl HC.out.below.size
          have hput := t_put_turn M9 (x := px) (A := pA) (n := pn) (c := pc) (l := pv) hg.2 (hg.1.1.below (HC.out.below.mono HAB.out.2)) (Nat.le_trans HAB.out.2 HC.out.below.size) hg.1.2 (fun h0 a' e hF => by
            obtain ⟨a2, e2, hb2, _⟩ := hg.1.1.2 h0
            have e : pA = some a' := e
            have e2 : pA = some a2 := e2
            rw [e] at e2
            injection e2 with e2
            subst e2
            have := HPP.out.2.2.2.1 _ hF
            have hb2 : a'.block < w.heap.size := hb2
            omega)
          have HM9 := Lib.hid M9
          clear M9 hg y0 y1 x0 x1 ylt cl hrp1 hrp2
          obtain ⟨PA, hPA⟩ : ∃ PA, PA = putA 2 px pv (l.map bareP) := ⟨_, rfl⟩
          rw [← hPA] at hput ⊢
          obtain ⟨pb, pe⟩ := PA
          have hee : (pe != pe) = false := by simp
          have hbb : (pb != pb) = false := by cases pb <;> rfl
          clear hPA
          go_wp2_with fail
          refine hput.mono ?_
          rintro e w9 ⟨rfl, F9, M10, K10⟩
          have K11 := turn_or K10 qb
          have hdoc9 : DocIn w9 (fun b => F9 b ∨ b = qb) A' c' l' := by
            have := HC.out.doc
            rw [HG.out] at this
            exact this.turn K11
          have hnb : ¬ F nb := fun hF => by have h1 := HC.out.le; have h2 := HT.out.1.tree.lt nb hF; omega
          have hrow9 : Row w9 nb 29 [.int .i64 ((2 : Nat) : Int), .slice A' l'.length c'] := HC.out.row.keep (K10.block nb HC.out.row.lt hnb)
          have hqrow : Row w9 qb 29 [.int .i64 2, .slice A ln c] := by
            have h1 := HT.out.2.2.1
            exact (h1.keep (HC.out.below.block qb h1.lt)).keep (K10.block qb (Nat.lt_of_lt_of_le h1.lt HC.out.below.size) HT.out.2.2.2)
          have hmap9 := HC.out.map
          rw [← hmap9] at M10
          have HEND := Lib.hid (show Mine W1.heap.size W1 ((w9.setCell ⟨qb, 0, none⟩ (.int .i64 2)).setCell ⟨qb, 1, none⟩ (.slice A' l'.length c')) F9 t 2 (l'.map bareP) ∧ DocIn ((w9.setCell ⟨qb, 0, none⟩ (.int .i64 2)).setCell ⟨qb, 1, none⟩ (.slice A' l'.length c')) (fun b => F9 b ∨ b = qb) A' c' l' ∧ Row ((w9.setCell ⟨qb, 0, none⟩ (.int .i64 2)).setCell ⟨qb, 1, none⟩ (.slice A' l'.length c')) qb 29 [.int .i64 2, .slice A' l'.length c'] ∧ ¬ F9 qb from by
            have hqF9 : ¬ F9 qb := fun hF => (K10.foot qb hF).elim HT.out.2.2.2 (fun h1 => by have := hqrow.lt; have h2 := HT.out.2.2.1.lt; have := HC.out.below.size; omega)
            have hk : ∀ b, b ≠ qb → ((w9.setCell ⟨qb, 0, none⟩ (.int .i64 2)).setCell ⟨qb, 1, none⟩ (.slice A' l'.length c')).heap[b]? = w9.heap[b]? := fun b hb => (heap_set_ne _ _ _ hb).trans (heap_set_ne _ _ _ hb)
            have hT : Turn (fun b => b = qb) w9 (fun b => b = qb) ((w9.setCell ⟨qb, 0, none⟩ (.int .i64 2)).setCell ⟨qb, 1, none⟩ (.slice A' l'.length c')) := ⟨rfl, rfl, rfl, by simp, fun b _ hb => hk b hb, fun b hb => .inl hb⟩
            refine ⟨⟨M10.tree.turn hT (fun b hb e => hqF9 (by have e : b = qb := e; rw [← e]; exact hb)), M10.up, M10.below.trans (hT.down (fun b hb => by have e : b = qb := hb; rw [e]; have := HPP.out.2.2.2.2; exact HQB.out) M10.le), by have := M10.le; simpa using this⟩, ?_, (hqrow.set 0 _).set 1 _, hqF9⟩
            exact (DocW.keep hdoc9 (fun b hP => hk b (fun e => hP.2 (.inr e))) (by simp)).more (fun b hP => ⟨by simpa using hP.1, hP.2⟩) (fun b hP => hP.1))
          have n0c := hrow9.cell (j := 0) rfl
          have n1c := hrow9.cell (j := 1) rfl
          have nbl := hrow9.lt
          have q0c := hqrow.cell (j := 0) rfl
          have q1c := hqrow.cell (j := 1) rfl
          have q0f := hqrow.frozen 0
          have q1f := hqrow.frozen 1
          have qbl := hqrow.lt
          clear K10 K11 hdoc9 hnb hrow9 hqrow hmap9 M10 hput
          go_wp2_with fail
          go_roundg (n0 - (i + 1))
          case measure => omega
          case rel => exact ⟨i + 1, F9, A', c', l', by omega, Nat.le_refl _, by go_num, HEND⟩
      · have hltz : ¬ (i : Int) < (n0 : Int) := by omega
        have hbw : Below w.heap.size w wr := HB.out.1.trans (HT.out.1.below.mono HB.out.1.size)
        have hrow : Row wr w.heap.size 44 [.int .i64 x, .int .i64 y] := HB.out.2.2.keep (HT.out.1.below.block _ (by have := HB.out.2.1; omega))
        have hrise : Rise (l.map bareP) := HT.out.1.tree.rise
        have hlen : l.length ≤ 512 := by have := HT.out.1.tree.len; simpa using this
        have hv : Reads wr wr.heap.size 1 A1 n1 (ints l1) := (HR1.out.1.below hbw).more hbw.size
        have hrt := rtop8_any (dim := 2) (c' := c1) HT.out.2.1 hrise hlen (fun p hp => (HT.out.1.tree.ok (bareP p) (List.mem_map_of_mem hp)).2) hv HR1.out.2 x y
        have y0 := HT.out.2.2.1.cell (j := 0) rfl
        have y1 := HT.out.2.2.1.cell (j := 1) rfl
        have yl := HT.out.2.2.1.lt
        have z0 := hrow.cell (j := 0) rfl
        have z1 := hrow.cell (j := 1) rfl
        have zl := hrow.lt
        have HROW := Lib.hid (And.intro hrow (And.intro hbw hv))
        clear hbw hrow hrise hlen hv
        obtain ⟨E, hE⟩ : ∃ E, E = topE 2 l1 x := ⟨_, rfl⟩
        have HE := Lib.hid hE
        have hee : (E == E) = true := by simp
        clear hE
        generalize hln : l.length = ln at *
        have HLN := Lib.hid hln
        clear hln
        go_wp2_with fail
        refine hrt.mono ?_
        intro e w10 hpost
        unfold TopXPost at hpost
        obtain ⟨A10, m10, c10, rfl, hR10, hm10, hb10, hf10⟩ := hpost
        rw [← HE.out]
        have M10 := HT.out.1.under hb10
        have hrow10 := HROW.out.1.keep (hb10.block _ HROW.out.1.lt)
        have ht10 := t_top_all (c := c1) M10.tree ((HROW.out.2.2).below hb10) hb10.size HR1.out.2 x y
        have z0 := hrow10.cell (j := 0) rfl
        have z1 := hrow10.cell (j := 1) rfl
        have zl := hrow10.lt
        have H10 := Lib.hid (And.intro M10 (And.intro hR10 (And.intro hm10 (And.intro hf10 (And.intro hrow10 hb10)))))
        clear M10 hR10 hm10 hf10 hrow10 hb10 hrt y0 y1 yl
        go_wp2_with fail
        refine ht10.mono ?_
        intro e w11 hpost
        unfold TopXPost at hpost
        obtain ⟨A11, m11, c11, rfl, hR11, hm11, hb11, hf11⟩ := hpost
        rw [← HE.out]
        have M11 := H10.out.1.under hb11
        have hbl := mine_build_turn M11
        have H11 := Lib.hid (And.intro M11 (And.intro hR11 (And.intro hm11 (And.intro hf11 hb11))))
        clear M11 hR11 hm11 hf11 hb11 ht10
        go_wp2_with fail
        refine hbl.mono ?_
        rintro e w12 ⟨rfl, F12, M12, K12⟩
        obtain ⟨M10, hR10, hm10, hf10, hrow10, hb10⟩ := H10.out
        obtain ⟨M11, hR11, hm11, hf11, hb11⟩ := H11.out
        have hFlt : ∀ b, F b → b < wr.heap.size := HT.out.1.tree.lt
        have hW12 : Reads w12 w12.heap.size 2 A10 m10 (hits (topX (l.map bareP) 2 l1 x y)) :=
          (reads_turn (hR10.below hb11) K12 hb11.size (fun ad e h0 hF => by have := hf10 ad e h0; have := hFlt _ hF; omega)).more (Nat.le_trans hb11.size K12.size)
        have hL12 : Reads w12 w12.heap.size 2 A11 m11 (hits (topX (l.map bareP) 2 l1 x y)) :=
          (reads_turn hR11 K12 (Nat.le_refl _) (fun ad e h0 hF => by have := hf11 ad e h0; have := hFlt _ hF; have := hb10.size; omega)).more K12.size
        have hrow12 := (hrow10.keep (hb11.block _ hrow10.lt)).keep (K12.block _ (Nat.lt_of_lt_of_le hrow10.lt hb11.size) (fun hF => by have := HT.out.1.up _ hF; have := HB.out.2.1; omega))
        have hv12 : Reads w12 w.heap.size 1 A1 n1 (ints l1) := HR1.out.1.below (HB.out.1.trans (M12.below.mono HB.out.1.size))
        have ht12 := t_top_all (c := c1) M12.tree hv12 (Nat.le_trans HB.out.1.size M12.le) HR1.out.2 x y
        have z0 := hrow12.cell (j := 0) rfl
        have z1 := hrow12.cell (j := 1) rfl
        have zl := hrow12.lt
        have H12 := Lib.hid (And.intro M12 (And.intro hW12 (And.intro hL12 (And.intro hm10 hm11))))
        clear M10 hR10 hm10 hf10 hrow10 hb10 M11 hR11 hm11 hf11 hb11 hFlt hW12 hL12 hrow12 hv12 M12 K12 hbl
        go_wp2_with fail
        refine ht12.mono ?_
        intro e w13 hpost
        unfold TopXPost at hpost
        obtain ⟨A13, m13, c13, rfl, hR13, hm13, hb13, hf13⟩ := hpost
        rw [← HE.out]
        obtain ⟨M12, hW12, hL12, hm10, hm11⟩ := H12.out
        have M13 := M12.under hb13
        have hs1 := same_any A11 A10 m11 m10 c11 c10 _ _ _ _ w13 (hL12.below hb13) (hW12.below hb13) hm11 hm10
        rw [decide_eq_true rfl] at hs1
        have hs2 := fun q => same_any A13 A10 m13 m10 c13 c10 _ _ _ _ (w13.drewN q) (hR13.drewN q) ((hW12.below hb13).drewN q) hm13 hm10
        simp only [decide_eq_true rfl] at hs2
        have HM13 := Lib.hid M13
        clear hR13 hm13 hb13 hf13 ht12 M12 hW12 hL12 hm10 hm11 M13
        go_wp2_with fail
        refine hs1.mono ?_
        rintro e w14 ⟨rfl, q14, rfl⟩
        go_wp2_with fail
        refine (hs2 q14).mono ?_
        rintro e w15 ⟨rfl, q15, rfl⟩
        go_wp2_with fail
        refine (HAW.out _).mono ?_
        rintro e w16 ⟨rfl, hb16⟩
        go_wp2_with fail
        go_ret
        exact ⟨rfl, HB.out.1.trans ((HM13.out.under (show Below w13.heap.size w13 w16 from by first | exact (below_drewN (Below.refl _ w13) _).trans hb16 | exact (below_drewN (below_drewN (Below.refl _ w13) _) _).trans hb16)).below.mono HB.out.1.size)⟩
end Go.Proofs.Ytkgapieikgniiaa
