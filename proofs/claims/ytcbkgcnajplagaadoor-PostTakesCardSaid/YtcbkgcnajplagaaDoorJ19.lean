/- What message of package post returns. Conditions: the values read as trees. -/
import Derived.Test.YtcbkgcnajplagaaDoorJ04
import Derived.Test.YtcbkgcnajplagaaDoorJ06
import Derived.Test.YtcbkgcnajplagaaDoorJ18
import Derived.Test.YtcbkgcnajplagaaDoorJ05
import Derived.Deep.AppendLies
import Derived.Deep.RegionLaw
import Derived.Deep.Cut
import Derived.Deep.CutRange
set_option linter.unusedVariables false
set_option linter.unusedSimpArgs false
set_option maxRecDepth 100000
namespace Go.Proofs.YtcbkgcnajplagaaDoor.Po
open Go Go.RowKit
open Be (T kindsOk kindsOkL deepT deepL wfT wfL tidy tidyL onlyRes takeRes gdT RdL Rd RdA ReadsP Keeps)
def offH (k : Nat) : Nat := if k < 10 then k else 11
theorem ptr_at (b : Nat) {k : Nat} (hk : k < 11) : (ptrsL b)[k]? = some (.pointer (some ⟨b, offH k, none⟩)) := by
  match k, hk with
  | 0, _ | 1, _ | 2, _ | 3, _ | 4, _ | 5, _ | 6, _ | 7, _ | 8, _ | 9, _ | 10, _ => rfl
/-- A message's cells of which k of eleven numbers are set. -/
structure HR (xs : List Value) (ns : List Int) (k : Nat) : Prop where
  len : xs.length = 16
  hd : ∀ j, j < k → xs[offH j]? = some (.int .i64 (ns.getD j 0))
  r10 : xs[10]? = some (.slice none 0 0)
  r12 : xs[12]? = some (.int .i64 0)
  r13 : xs[13]? = some (.bool false)
  r14 : xs[14]? = some (.slice none 0 0)
  r15 : xs[15]? = some (.string ⟨#[]⟩)
theorem HR.zero (ns : List Int) : HR zC ns 0 := ⟨rfl, fun j hj => absurd hj (by omega), rfl, rfl, rfl, rfl, rfl⟩
theorem offH_lt {k : Nat} (hk : k < 11) : offH k < 12 ∧ offH k ≠ 10 := by unfold offH; split <;> omega
theorem offH_inj {j k : Nat} (hj : j < 11) (hk : k < 11) (h : j ≠ k) : offH j ≠ offH k := by unfold offH; split <;> split <;> omega
theorem HR.step {xs : List Value} {ns : List Int} {k : Nat} (h : HR xs ns k) (hk : k < 11) : HR (xs.set (offH k) (.int .i64 (ns.getD k 0))) ns (k + 1) := by
  obtain ⟨h1, h2⟩ := offH_lt hk
  have hl := h.len
  refine ⟨by simpa using hl, fun j hj => ?_, ?_, ?_, ?_, ?_, ?_⟩
  · by_cases hjk : j = k
    · subst hjk
      rw [List.getElem?_set_self (by omega)]
    · rw [List.getElem?_set_ne (offH_inj hk (by omega) (fun e => hjk e.symm))]
      exact h.hd j (by omega)
  · rw [List.getElem?_set_ne h2]; exact h.r10
  · rw [List.getElem?_set_ne (by omega)]; exact h.r12
  · rw [List.getElem?_set_ne (by omega)]; exact h.r13
  · rw [List.getElem?_set_ne (by omega)]; exact h.r14
  · rw [List.getElem?_set_ne (by omega)]; exact h.r15
theorem zC_one : ∀ v ∈ zC, v.oneCell' = true := msgC_one zM none 0 0 none 0 0
def hM (ns : List Int) : M := ⟨ns.getD 0 0, ns.getD 1 0, ns.getD 2 0, ns.getD 3 0, ns.getD 4 0, ns.getD 5 0, ns.getD 6 0, ns.getD 7 0, ns.getD 8 0, ns.getD 9 0, ns.getD 10 0, [], 0, false, [], ⟨#[]⟩⟩
theorem HR.all {xs : List Value} {ns : List Int} (h : HR xs ns 11) : xs = msgC (hM ns) (.slice none 0 0) (.slice none 0 0) := by
  refine List.ext_getElem? fun i => ?_
  by_cases hi : i < 16
  · match i, hi with
    | 0, _ => exact h.hd 0 (by omega)
    | 1, _ => exact h.hd 1 (by omega)
    | 2, _ => exact h.hd 2 (by omega)
    | 3, _ => exact h.hd 3 (by omega)
    | 4, _ => exact h.hd 4 (by omega)
    | 5, _ => exact h.hd 5 (by omega)
    | 6, _ => exact h.hd 6 (by omega)
    | 7, _ => exact h.hd 7 (by omega)
    | 8, _ => exact h.hd 8 (by omega)
    | 9, _ => exact h.hd 9 (by omega)
    | 10, _ => exact h.r10
    | 11, _ => exact h.hd 10 (by omega)
    | 12, _ => exact h.r12
    | 13, _ => exact h.r13
    | 14, _ => exact h.r14
    | 15, _ => exact h.r15
    | n + 16, h => exact absurd h (by omega)
  · rw [List.getElem?_eq_none (by rw [h.len]; omega), List.getElem?_eq_none (by simp [msgC]; omega)]
theorem HR.at_ {xs : List Value} {ns : List Int} {k : Nat} (h : HR xs ns k) {j : Nat} (hj : j < 12) : ∃ u, xs[j]? = some u := ⟨xs[j]'(by have := h.len; omega), List.getElem?_eq_getElem _⟩
/-- What comes out of values. -/
def MsgPost (ts : List T) (w : World) (e : Ending) (w' : World) : Prop :=
  Below w.heap.size w w' ∧ match ofVals ts ⟨#[]⟩ with
  | none => e = .returned (.tuple #[.agg zC.toArray, .bool false])
  | some m => ∃ A n c A' n' c', e = .returned (.tuple #[.agg (msgV m A n c A' n' c').toArray, .bool true]) ∧ Reads w' w'.heap.size 1 A n (ints m.vs) ∧ Reads w' w'.heap.size 2 A' n' (hits m.hs) ∧ n ≤ 70000 ∧ n' ≤ 70000 ∧ (∀ ad, A = some ad → w.heap.size ≤ ad.block) ∧ (∀ ad, A' = some ad → w.heap.size ≤ ad.block)
theorem own_new {w : World} {b e s : Nat} {A : Option Addr} {n c : Nat} {xs : List Value} (h : w.ownsRow b e s (.slice A n c) n xs) : ∀ ad, A = some ad → b ≤ ad.block := fun ad hA => by
  subst hA
  refine (h.lt ad.block ?_).1
  rcases h.2 with ⟨h1, _⟩ | ⟨g, cap, cur, h1, _⟩
  · simp at h1
  · injection h1 with h1 _ _
    injection h1 with h1
    subst h1
    rfl
theorem hitsOf_len : ∀ l : List Int, (hitsOf l).length = l.length / 2
  | [] => rfl
  | [a] => by simp [hitsOf]
  | a :: b :: r => by
    have := hitsOf_len r
    simp only [hitsOf, List.length_cons, this]
    omega
theorem hitsOf_at : ∀ (l : List Int) (k : Nat), k < (hitsOf l).length → (hitsOf l).getD k (0, 0) = (l.getD (2 * k) 0, l.getD (2 * k + 1) 0)
  | [], k, h => by simp [hitsOf] at h
  | [a], k, h => by simp [hitsOf] at h
  | a :: b :: r, 0, h => by simp [hitsOf]
  | a :: b :: r, k + 1, h => by
    have := hitsOf_at r k (by simpa [hitsOf] using h)
    rw [show 2 * (k + 1) = 2 * k + 1 + 1 by omega]
    simpa [hitsOf] using this
theorem own_ints {w : World} (b : Nat) : w.ownsRow b 3 1 (.slice none 0 0) 0 (ints []) := World.ownsRow_nil ..
/-- Where the values of a list lie. -/
def Els (w : World) (pv ov : Nat) (l : List T) : Prop := ∀ w', Below w.heap.size w w' → pv < w'.heap.size ∧ ∀ j (hj : j < l.length), ∃ A3 c3, w'.cell? ⟨pv, ov + j * 4, none⟩ = some (.int .i64 l[j].k) ∧ w'.cell? ⟨pv, ov + j * 4 + 1, none⟩ = some (.int .i64 l[j].n) ∧ w'.cell? ⟨pv, ov + j * 4 + 2, none⟩ = some (.string l[j].s) ∧ w'.cell? ⟨pv, ov + j * 4 + 3, none⟩ = some (.slice A3 l[j].l.length c3)
theorem els_at {ok : Nat → Prop} {w : World} {A : Option Addr} {l : List T} {xs : List Value} (hr : ReadsP ok w 4 A l.length xs) (hl : RdL ok w l xs) (h0 : 0 < l.length) : ∃ pv ov, A = some ⟨pv, ov, none⟩ ∧ Els w pv ov l := by
  obtain ⟨b, o, _, _, hA, _, hlt, _⟩ := Be.elem_at (k := 0) hr hl h0
  refine ⟨b, o, hA, fun w' hb => ⟨Nat.lt_of_lt_of_le hlt hb.size, fun k hk => ?_⟩⟩
  have kp : Keeps ok w w' := Keeps.of_below hb (fun b _ h => h)
  obtain ⟨b', o', A', c', hA', _, _, _, hRA, e0, e1, e2, e3⟩ := Be.elem_at (k := k) (hr.keep kp) (RdL.keep kp _ _ hl) hk
  rw [hA] at hA'
  injection hA' with hA'
  injection hA' with h1 h2 _
  subst h1 h2
  exact ⟨A', c', e0, e1, e2, e3⟩
/-- A value within a value: its slice, and where its values lie. -/
def Sub (w : World) (pb q : Nat) (u : T) (A' : Option Addr) (c' : Nat) : Prop := u.l.length ≤ c' ∧ c' ≤ maxLen ∧ (∀ w', Below w.heap.size w w' → w'.cell? ⟨pb, q, none⟩ = some (.slice A' u.l.length c')) ∧ (0 < u.l.length → ∃ pv ov, A' = some ⟨pv, ov, none⟩ ∧ Els w pv ov u.l)
theorem sub_at {ok : Nat → Prop} {w : World} {pb po : Nat} {l : List T} {xs : List Value} (hr : ReadsP ok w 4 (some ⟨pb, po, none⟩) l.length xs) (hl : RdL ok w l xs) {k : Nat} (hk : k < l.length) {q : Nat} (hq : q = po + k * 4 + 3) : ∃ A' c', Sub w pb q l[k] A' c' := by
  subst hq
  obtain ⟨b', o', A', c', hA', _, hlt, _, hRA, e0, e1, e2, e3⟩ := Be.elem_at (k := k) hr hl hk
  injection hA' with hA'
  injection hA' with h1 h2 _
  subst h1 h2
  obtain ⟨A2, c2, xs2, hv2, _, h3, h4, hr2, hl2⟩ := hRA
  simp only [Value.agg.injEq, Array.mk.injEq, List.cons.injEq, Value.slice.injEq, and_true, true_and] at hv2
  obtain ⟨rfl, rfl⟩ := hv2
  exact ⟨A', c', h3, h4, fun w' hb => (hb.cell (p := ⟨pb, po + k * 4 + 3, none⟩) hlt).trans e3, fun h0 => els_at hr2 hl2 h0⟩
/-- The vector as it grows in a message's variable. -/
structure P2 (w wr : World) (m : M) (va : Value) (k : Nat) (L : List Int) : Prop where
  rz : Row wr w.heap.size 30 zC
  row : Row wr (w.heap.size + 1) 30 (msgC m va (.slice none 0 0))
  own : wr.ownsRow (w.heap.size + 1 + 1) 3 1 va k (ints L)
  bel : Below w.heap.size w wr
structure N2 (w w3 : World) (m : M) (va v' : Value) (k : Nat) (L : List Int) : Prop where
  z1 : w3.frozen? ⟨w.heap.size + 1, 10, none⟩ = false
  y1 : w3.cell? ⟨w.heap.size + 1, 10, none⟩ = some va
  l3 : w.heap.size + 1 < w3.heap.size
  next : P2 w (w3.setCell ⟨w.heap.size + 1, 10, none⟩ v') m v' k L
theorem P2.step {w wr wd w3 : World} {m : M} {va v' : Value} {k k' : Nat} {L L' : List Int} (h : P2 w wr m va k L) (hd : Below wr.heap.size wr wd) (ho : w3.ownsRow (w.heap.size + 1 + 1) 3 1 v' k' (ints L')) (hg : wd.grownBy w3 va.ownBlock) : N2 w w3 m va v' k' L' := by
  have hl1 := h.row.lt
  have hb : Below (w.heap.size + 1 + 1) wd w3 := below_own (keep_none h.own hd) hg (by have := hd.size; omega)
  have hb2 : Below (w.heap.size + 1 + 1) wr w3 := (hd.mono (by omega)).trans hb
  have r3 := h.row.keep (hb2.block (w.heap.size + 1) (by omega))
  have r0 := h.rz.keep (hb2.block w.heap.size (by omega))
  refine ⟨r3.frozen 10, r3.cell (j := 10) rfl, r3.lt, r0.keep (heap_set_ne _ _ _ (by show w.heap.size ≠ w.heap.size + 1; omega)), r3.set 10 v', ownsRow_setCell_below ho (a := ⟨w.heap.size + 1, 10, none⟩) (by show w.heap.size + 1 < w.heap.size + 1 + 1; omega) v', below_setCell (h.bel.trans (hb2.mono (by omega))) (p := ⟨w.heap.size + 1, 10, none⟩) (by show w.heap.size ≤ w.heap.size + 1; omega) v'⟩
/-- The hits as they grow in a message's variable. -/
structure P3 (w wr : World) (b : Nat) (m : M) (va vb : Value) (j : Nat) (L : List Int) (k : Nat) (H : List (Int × Int)) : Prop where
  rz : Row wr w.heap.size 30 zC
  row : Row wr (w.heap.size + 1) 30 (msgC m va vb)
  own : wr.ownsRow (w.heap.size + 1 + 1) 3 1 va j (ints L)
  sep : ∀ g, va.ownBlock = some g → g < b
  hown : wr.ownsRow b 52 2 vb k (hits H)
  bel : Below w.heap.size w wr
  lb : w.heap.size + 1 < b
structure N3 (w w3 : World) (b : Nat) (m : M) (va vb v' : Value) (j : Nat) (L : List Int) (k : Nat) (H : List (Int × Int)) : Prop where
  z1 : w3.frozen? ⟨w.heap.size + 1, 14, none⟩ = false
  y1 : w3.cell? ⟨w.heap.size + 1, 14, none⟩ = some vb
  l3 : w.heap.size + 1 < w3.heap.size
  next : P3 w (w3.setCell ⟨w.heap.size + 1, 14, none⟩ v') b m va v' j L k H
theorem P3.step {w wr wd w3 : World} {b : Nat} {m : M} {va vb v' : Value} {j : Nat} {L : List Int} {k k' : Nat} {H H' : List (Int × Int)} (h : P3 w wr b m va vb j L k H) (hbr : b ≤ wr.heap.size) (hd : Below wr.heap.size wr wd) (ho : w3.ownsRow b 52 2 v' k' (hits H')) (hg : wd.grownBy w3 vb.ownBlock) : N3 w w3 b m va vb v' j L k' H' := by
  have hlb := h.lb
  have hl1 := h.row.lt
  have hb : Below b wd w3 := below_own (keep_none h.hown hd) hg (by have := hd.size; omega)
  have hb2 : Below b wr w3 := (hd.mono hbr).trans hb
  have r3 := h.row.keep (hb2.block (w.heap.size + 1) hlb)
  have r0 := h.rz.keep (hb2.block w.heap.size (by omega))
  have ho2 := own_keep h.own (fun g e => hb2.block g (h.sep g e))
  refine ⟨r3.frozen 14, r3.cell (j := 14) rfl, r3.lt, r0.keep (heap_set_ne _ _ _ (by show w.heap.size ≠ w.heap.size + 1; omega)), r3.set 14 v', ownsRow_setCell_below ho2 (a := ⟨w.heap.size + 1, 14, none⟩) (by show w.heap.size + 1 < w.heap.size + 1 + 1; omega) v', h.sep, ownsRow_setCell_below ho (a := ⟨w.heap.size + 1, 14, none⟩) (by show w.heap.size + 1 < b; omega) v', below_setCell (h.bel.trans (hb2.mono (by omega))) (p := ⟨w.heap.size + 1, 14, none⟩) (by show w.heap.size ≤ w.heap.size + 1; omega) v', h.lb⟩
def mkM (ns : List Int) (er : Int) (wa : Bool) (vs : List Int) (hs : List (Int × Int)) : M := ⟨ns.getD 0 0, ns.getD 1 0, ns.getD 2 0, ns.getD 3 0, ns.getD 4 0, ns.getD 5 0, ns.getD 6 0, ns.getD 7 0, ns.getD 8 0, ns.getD 9 0, ns.getD 10 0, vs, er, wa, hs, ⟨#[]⟩⟩
theorem ofVals_15 {ts : List T} (h : ts.length = 15) : ofVals ts ⟨#[]⟩ = some (mkM (ts.map T.n) ((ts.map T.n).getD 12 0) ((ts.map T.n).getD 13 0 == 1) ((ts[11]'(by omega)).l.map T.n) (hitsOf ((ts[14]'(by omega)).l.map T.n))) := by
  obtain ⟨a0, a1, a2, a3, a4, a5, a6, a7, a8, a9, a10, a11, a12, a13, a14, rfl⟩ := fifteen h
  rfl
theorem hit_row : (Tryd.prog.info? 52).map (fun i => (i.zero, i.size, i.bytes)) = some (some (hitV (0, 0)), 2, 16) := by kernel_rfl
theorem hit_one (a b : Int) : ∀ u ∈ hcell (a, b), u.oneCell' = true := fun u hu => by
  simp [hcell] at hu
  rcases hu with rfl | rfl <;> rfl
theorem news_hit (w : World) (a b : Int) : ∀ j u, (hcell (a, b))[j]? = some u → (w.alloc (.cells #[.int .i64 a, .int .i64 b] 52)).cell? ((⟨w.heap.size, 0, none⟩ : Addr).add j) = some u :=
  news_cells w #[.int .i64 a, .int .i64 b] 52
theorem lenOf_take {l : List T} {k : Nat} (hk : k < l.length) : (l.map T.n).take (k + 1) = (l.map T.n).take k ++ [(l[k]).n] := by
  rw [List.take_succ_eq_append_getElem (by simpa using hk), List.getElem_map]
theorem hits_step (L : List Int) {k : Nat} (hk : k < (hitsOf L).length) : hits ((hitsOf L).take (k + 1)) = hits ((hitsOf L).take k) ++ hcell (L.getD (2 * k) 0, L.getD (2 * k + 1) 0) := by
  rw [take_hit _ k hk, hitsOf_at L k hk, hits_append]
  simp [hits]
set_option maxHeartbeats 16000000 in
theorem message_any (ts : List T) (A : Option Addr) (c : Nat) (xs : List Value) {ok : Nat → Prop} {w : World} (hr : ReadsP ok w 4 A ts.length xs) (hl : RdL ok w ts xs) (hc1 : ts.length ≤ c) (hc2 : c ≤ maxLen) (hlen : ts.length ≤ 65536) (hlens : ∀ u ∈ ts, u.l.length ≤ 65536) :
    Calls Tryd.prog 52 #[.slice A ts.length c] w (MsgPost ts w) := by
  obtain ⟨W, hW⟩ : ∃ W, W = (w.alloc (.cells zC.toArray 30)).alloc (.cells zC.toArray 30) := ⟨_, rfl⟩
  have hb0 : Below w.heap.size w W := by rw [hW]; exact ((Below.refl _ w).alloc (Nat.le_refl _) _).alloc (by simp) _
  have hRz : Row W w.heap.size 30 zC := by rw [hW]; exact (Row.new w 30 zC).keep (heap_alloc_lt _ _ (by simp))
  have hRm : Row W (w.heap.size + 1) 30 zC := by
    rw [hW]
    have := Row.new (w.alloc (.cells zC.toArray 30)) 30 zC
    rwa [World.size_alloc] at this
  have hsW : W.heap.size = w.heap.size + 1 + 1 := by rw [hW]; simp
  have HSW := Lib.hid hsW
  have HF := Lib.hid (fields_any (w.heap.size + 1) W)
  have HW := Lib.hid hW
  have hLz : IntKind.i64.wrap ((11 : Int) + 4) = 15 := by decide
  by_cases h15 : ts.length = 15
  rotate_left
  · have hne : (((ts.length : Nat) : Int) != 15) = true := by rw [bne_iff_ne]; omega
    have HO := Lib.hid (ofVals_no (tx := ⟨#[]⟩) h15)
    have HZ := Lib.hid (And.intro hRz hb0)
    clear hRz hRm hb0 hW hsW hr hl hlens
    generalize ts.length = n at *
    go_enter Tryd.func52, Tryd.ntmps52
    unfold zC msgC zM at HW
    go_wp2_with fail
    rw [← HW.out]
    refine HF.out.mono ?_
    intro en w1 hpost
    unfold FldPost at hpost
    obtain ⟨rfl, rF, hb1, hs1⟩ := hpost
    have rz := HZ.out.1.keep (hb1.block _ HZ.out.1.lt)
    have HB := Lib.hid (And.intro rz (HZ.out.2.trans (hb1.mono HZ.out.2.size)))
    clear rF hb1 hs1 rz
    go_wp2_with (refine st_msg (ys := zC) HB.out.1 rfl rfl zC_one rfl _ _ rfl rfl rfl ?_; intro W' hr' hs' hg')
    refine bodyPost_ret (res_msg Tryd.results52 _ hr' rfl rfl rfl) rfl ⟨HB.out.2.grown hg' HB.out.2.size (fun g e => by cases e; exact Nat.le_refl _), ?_⟩
    rw [HO.out]
    exact rfl
  · obtain ⟨pb, po, hA, hEL⟩ := els_at hr hl (by omega)
    subst hA
    obtain ⟨A2, c2, hS2⟩ := sub_at hr hl (k := 11) (by omega) (q := po + 44 + 3) (by omega)
    obtain ⟨A4, c4, hS4⟩ := sub_at hr hl (k := 14) (by omega) (q := po + 44 + 12 + 3) (by omega)
    have hOF := ofVals_15 h15
    have hn2 := hlens ts[11] (List.getElem_mem _)
    have hn4 := hlens ts[14] (List.getElem_mem _)
    obtain ⟨u2, hu2⟩ : ∃ u2, ts[11] = u2 := ⟨_, rfl⟩
    obtain ⟨u4, hu4⟩ : ∃ u4, ts[14] = u4 := ⟨_, rfl⟩
    rw [hu2] at hS2 hOF hn2
    rw [hu4] at hS4 hOF hn4
    clear hu2 hu4
    have hpb := (hEL w (Below.refl _ w)).1
    obtain ⟨ns, hns⟩ : ∃ ns : List Int, ts.map T.n = ns := ⟨_, rfl⟩
    have hnk : ∀ k (hk : k < ts.length), ts[k].n = ns.getD k 0 := fun k hk => by rw [← hns, List.getD_eq_getElem?_getD, List.getElem?_map, List.getElem?_eq_getElem hk]; rfl
    rw [hns] at hOF
    have HS2 := Lib.hid hS2
    have HS4 := Lib.hid hS4
    have HOF := Lib.hid hOF
    have HEL := Lib.hid hEL
    have HNK := Lib.hid hnk
    have HNS := Lib.hid hns
    have H15 := Lib.hid h15
    have HLS := Lib.hid hlens
    have HZ := Lib.hid (And.intro hRz (And.intro hRm hb0))
    rw [h15] at hc1 ⊢
    clear hRz hRm hb0 hW hsW hr hl hlens hEL hnk hns h15 hlen hS2 hS4 hOF
    go_enter Tryd.func52, Tryd.ntmps52
    unfold zC msgC zM at HW
    go_wp2_with fail
    rw [← HW.out]
    refine HF.out.mono ?_
    intro en w1 hpost
    unfold FldPost at hpost
    obtain ⟨rfl, rF, hb1, hs1⟩ := hpost
    have HX := Lib.hid (show Row w1 w.heap.size 30 zC ∧ Row w1 (w.heap.size + 1) 30 zC ∧ Row w1 W.heap.size 59 (ptrsL (w.heap.size + 1)) ∧ Below w.heap.size w w1 from
      ⟨HZ.out.1.keep (hb1.block _ HZ.out.1.lt), HZ.out.2.1.keep (hb1.block _ HZ.out.2.1.lt), rF, HZ.out.2.2.trans (hb1.mono HZ.out.2.2.size)⟩)
    clear rF hb1 hs1
    have hgp : w.heap.size + 1 < W.heap.size := by have := HSW.out; omega
    generalize W.heap.size = g at *
    go_wp2_with fail
    go_loopw [22] (fun i wr => ∃ (k : Nat) (ys : List Value), i = .int .i64 (k : Int) ∧ k ≤ 11 ∧ Hid (HR ys ns k) ∧ Row wr w.heap.size 30 zC ∧ Row wr (w.heap.size + 1) 30 ys ∧ Row wr g 59 (ptrsL (w.heap.size + 1)) ∧ Below w.heap.size w wr) (fun i _ => 11 - (intOf i).toNat)
    case atStart => exact ⟨0, zC, rfl, Nat.zero_le _, Lib.hid (HR.zero ns), HX.out⟩
    case round =>
      obtain ⟨k, ys, rfl, hk, HH, rz, rm, rf, hb⟩ := hrel
      by_cases hlt : k < 11
      · have hltz : (k : Int) < 11 := by omega
        obtain ⟨hpl, hel⟩ := HEL.out wr hb
        obtain ⟨_, _, _, e1, _, _⟩ := hel k (by rw [H15.out]; omega)
        rw [HNK.out k (by rw [H15.out]; omega)] at e1
        have c1 := rf.cell (ptr_at (w.heap.size + 1) hlt)
        obtain ⟨u, hu⟩ := HH.out.at_ (offH_lt hlt).1
        have c2 := rm.cell hu
        have z2 := rm.frozen (offH k)
        have l1 := rf.lt
        have l2 := rm.lt
        have hrmn := rm.set (offH k) (.int .i64 (ns.getD k 0))
        have HN := Lib.hid (show Hid (HR (ys.set (offH k) (.int .i64 (ns.getD k 0))) ns (k + 1)) ∧ Row (wr.setCell ⟨w.heap.size + 1, offH k, none⟩ (.int .i64 (ns.getD k 0))) w.heap.size 30 zC ∧ Row (wr.setCell ⟨w.heap.size + 1, offH k, none⟩ (.int .i64 (ns.getD k 0))) (w.heap.size + 1) 30 (ys.set (offH k) (.int .i64 (ns.getD k 0))) ∧ Row (wr.setCell ⟨w.heap.size + 1, offH k, none⟩ (.int .i64 (ns.getD k 0))) g 59 (ptrsL (w.heap.size + 1)) ∧ Below w.heap.size w (wr.setCell ⟨w.heap.size + 1, offH k, none⟩ (.int .i64 (ns.getD k 0))) from
          ⟨Lib.hid (HH.out.step hlt), rz.keep (heap_set_ne _ _ _ (by show w.heap.size ≠ w.heap.size + 1; omega)), hrmn, rf.keep (heap_set_ne _ _ _ (by show g ≠ w.heap.size + 1; omega)), below_setCell hb (p := ⟨w.heap.size + 1, offH k, none⟩) (by show w.heap.size ≤ w.heap.size + 1; omega) _⟩)
        clear hel hu rz rm rf hb hrmn HH
        generalize ns.getD k 0 = x at *
        generalize ys.set (offH k) (.int .i64 x) = zs at *
        generalize offH k = o at *
        go_wp2_with fail
        exact ⟨⟨k + 1, zs, by go_num, hlt, HN.out⟩, by simp [intOf]; omega⟩
      · obtain rfl : k = 11 := by omega
        have hnl : ¬ ((11 : Nat) : Int) < 11 := by omega
        obtain rfl := HH.out.all
        obtain ⟨w2, h2⟩ : ∃ w2, w2 = wr := ⟨_, rfl⟩
        subst h2
        have e11 := HS2.out.2.2.1 w2 hb
        have lpb := (HEL.out w2 hb).1
        have HP := Lib.hid (show P2 w w2 (mkM ns 0 false (u2.l.map T.n) (hitsOf (u4.l.map T.n))) (.slice none 0 0) 0 [] from ⟨rz, rm, World.ownsRow_nil .., hb⟩)
        clear hk HH hlt rz rm rf hb
        generalize hL2 : u2.l.length = n2 at *
        have HL2 := Lib.hid hL2
        clear hL2
        go_wp2_with fail
        clear e11 lpb
        go_loopw [44] (fun i wr => ∃ (va : Value) (k : Nat), i = .int .i64 (k : Int) ∧ k ≤ n2 ∧ P2 w wr (mkM ns 0 false (u2.l.map T.n) (hitsOf (u4.l.map T.n))) va k ((u2.l.map T.n).take k)) (fun i _ => n2 - (intOf i).toNat)
        case atStart => exact ⟨_, 0, rfl, Nat.zero_le _, HP.out⟩
        case round =>
          obtain ⟨va, k, rfl, hk, hP⟩ := hrel
          obtain ⟨Aq, cq, rfl, _, _⟩ := own_shape hP.own
          have y1 := hP.row.cell (j := 10) rfl
          have yl := hP.row.lt
          by_cases hlt : k < n2
          · have hltz : (k : Int) < (n2 : Int) := by omega
            obtain ⟨pv, ov, rfl, hEls⟩ := HS2.out.2.2.2 (by have := HL2.out; omega)
            obtain ⟨hpl, hel⟩ := hEls wr hP.bel
            obtain ⟨A3, c3, q0, q1, q2, q3⟩ := hel k (by have := HL2.out; omega)
            have HTK := Lib.hid (lenOf_take (l := u2.l) (k := k) (by have := HL2.out; omega))
            have HP2 := Lib.hid hP
            have hle : w.heap.size + 1 < wr.heap.size := yl
            clear hP hel hEls
            generalize hu : u2.l[k]'(by have := HL2.out; omega) = u at *
            obtain ⟨uk, un, us, ul⟩ := u
            simp only [Be.T.k, Be.T.n, Be.T.s, Be.T.l] at q0 q1 q2 q3
            have HTK : Hid ((u2.l.map T.n).take (k + 1) = (u2.l.map T.n).take k ++ [un]) := HTK
            clear hu
            go_wp2_with (at_builtin; refine append_int rfl (.tmp 50) (.tmp 53) rfl (w.heap.size + 1 + 1) (.slice Aq k cq) k (ints ((u2.l.map T.n).take k)) un rfl (HP2.out.own.alloc _) _ (by simp) rfl (by omega) (by simp; omega) ?_; intro v' w3 hown3 hgr3; rw [ints_snoc, ← HTK.out] at hown3; obtain ⟨Ar, cr, rfl, _, _⟩ := own_shape hown3; have HN := Lib.hid (HP2.out.step ((Below.refl _ wr).alloc (Nat.le_refl _) _) hown3 hgr3); have z1 := HN.out.z1; have z2 := HN.out.y1; have l3 := HN.out.l3; clear hown3 hgr3)
            exact ⟨⟨_, k + 1, by go_num, hlt, HN.out.next⟩, by simp [intOf]; omega⟩
          · obtain rfl : k = n2 := by omega
            have hnl2 : ¬ (k : Int) < (k : Int) := by omega
            obtain ⟨w4, h4⟩ : ∃ w4, w4 = wr := ⟨_, rfl⟩
            subst h4
            have htk : (u2.l.map T.n).take k = u2.l.map T.n := List.take_of_length_le (by simp; exact Nat.le_of_eq HL2.out)
            rw [htk] at hP
            have hel := (HEL.out w4 hP.bel).2
            obtain ⟨_, _, _, e12, _, _⟩ := hel 12 (by rw [H15.out]; omega)
            obtain ⟨_, _, _, e13, _, _⟩ := hel 13 (by rw [H15.out]; omega)
            have e14 := HS4.out.2.2.1 w4 hP.bel
            rw [HNK.out 12 (by rw [H15.out]; omega), show po + 12 * 4 + 1 = po + 44 + 4 + 1 by omega] at e12
            rw [HNK.out 13 (by rw [H15.out]; omega), show po + 13 * 4 + 1 = po + 44 + 8 + 1 by omega] at e13
            have lpb := (HEL.out w4 hP.bel).1
            have hpne : pb ≠ w.heap.size + 1 := by omega
            have f12 := hP.row.cell (j := 12) rfl
            have f13 := hP.row.cell (j := 13) rfl
            have z12 := hP.row.frozen 12
            have z13 := hP.row.frozen 13
            have HP4 := Lib.hid hP
            clear y1 hP hel hk hlt htk
            generalize ns.getD 12 0 = x12 at *
            generalize ns.getD 13 0 = x13 at *
            generalize hL4 : u4.l.length = n4 at *
            have HL4 := Lib.hid hL4
            clear hL4
            go_wp2_with fail
            obtain ⟨w5, h5⟩ : ∃ w5, (w4.setCell ⟨w.heap.size + 1, 12, none⟩ (.int .i64 x12)).setCell ⟨w.heap.size + 1, 13, none⟩ (.bool (x13 == 1)) = w5 := ⟨_, rfl⟩
            have hs5 : w5.heap.size = w4.heap.size := by rw [← h5]; simp
            have hP5 : P3 w w5 w4.heap.size (mkM ns x12 (x13 == 1) (u2.l.map T.n) (hitsOf (u4.l.map T.n))) (.slice Aq k cq) (.slice none 0 0) k (u2.l.map T.n) 0 [] := by
              have h := HP4.out
              have hlr := h.row.lt
              have hrow := (h.row.set 12 (.int .i64 x12)).set 13 (.bool (x13 == 1))
              rw [h5] at hrow
              refine ⟨?_, hrow, ?_, fun g e => (h.own.lt g e).2, World.ownsRow_nil .., ?_, hlr⟩
              · rw [← h5]; exact (h.rz.keep (heap_set_ne _ _ _ (by show w.heap.size ≠ w.heap.size + 1; omega))).keep (heap_set_ne _ _ _ (by show w.heap.size ≠ w.heap.size + 1; omega))
              · rw [← h5]; exact ownsRow_setCell_below (ownsRow_setCell_below h.own (a := ⟨w.heap.size + 1, 12, none⟩) (by show w.heap.size + 1 < w.heap.size + 1 + 1; omega) _) (a := ⟨w.heap.size + 1, 13, none⟩) (by show w.heap.size + 1 < w.heap.size + 1 + 1; omega) _
              · rw [← h5]; exact below_setCell (below_setCell h.bel (p := ⟨w.heap.size + 1, 12, none⟩) (by show w.heap.size ≤ w.heap.size + 1; omega) _) (p := ⟨w.heap.size + 1, 13, none⟩) (by show w.heap.size ≤ w.heap.size + 1; omega) _
            have HP5 := Lib.hid hP5
            have HB5 := Lib.hid (Nat.le_of_eq hs5.symm)
            rw [h5]
            clear e12 e13 e14 f12 f13 z12 z13 lpb yl HP4 h5 hs5 hP5
            generalize w4.heap.size = b at *
            have hc4 : n4 ≤ c4 ∧ c4 ≤ maxLen := by have h1 := HS4.out.1; have h2 := HS4.out.2.1; rw [HL4.out] at h1; exact ⟨h1, h2⟩
            have HLH := Lib.hid (show (hitsOf (u4.l.map T.n)).length = n4 / 2 by rw [hitsOf_len, List.length_map, HL4.out])
            obtain ⟨i0, hi, hz0, hz1, hz2⟩ := info_parts hit_row
            go_loopw [11] (fun s wr => ∃ (vb : Value) (q : Nat) (Ak : Option Addr) (nk ck : Nat), s = .slice Ak nk ck ∧ nk + 2 * q = n4 ∧ ck + 2 * q = c4 ∧ (∀ pv ov, A4 = some ⟨pv, ov, none⟩ → 1 < nk → Ak = some ⟨pv, ov + 8 * q, none⟩) ∧ P3 w wr b (mkM ns x12 (x13 == 1) (u2.l.map T.n) (hitsOf (u4.l.map T.n))) (.slice Aq k cq) vb k (u2.l.map T.n) q ((hitsOf (u4.l.map T.n)).take q) ∧ b ≤ wr.heap.size) (fun s _ => match s with | .slice _ n _ => n | _ => 0)
            case atStart => exact ⟨_, 0, A4, n4, c4, rfl, rfl, rfl, fun pv ov e _ => e, HP5.out, HB5.out⟩
            case round =>
              obtain ⟨vb, q, Ak, nk, ck, rfl, hnk, hck, hAk, hP, hbs⟩ := hrel
              obtain ⟨Ah, ch, rfl, _, _⟩ := own_shape hP.hown
              have y1 := hP.row.cell (j := 14) rfl
              have yl := hP.row.lt
              by_cases hlt : 1 < nk
              · obtain ⟨pv, ov, hA4, hEls⟩ := HS4.out.2.2.2 (by have := HL4.out; omega)
                obtain rfl := hAk pv ov hA4 hlt
                obtain ⟨hpl, hel⟩ := hEls wr hP.bel
                obtain ⟨_, _, _, q1, _, _⟩ := hel (2 * q) (by have := HL4.out; omega)
                obtain ⟨_, _, _, q2, _, _⟩ := hel (2 * q + 1) (by have := HL4.out; omega)
                obtain ⟨n0, rfl⟩ : ∃ n0, nk = n0 + 2 := ⟨nk - 2, by omega⟩
                obtain ⟨c0, rfl⟩ : ∃ c0, ck = c0 + 2 := ⟨ck - 2, by omega⟩
                have hq4 : q < (hitsOf (u4.l.map T.n)).length := by rw [HLH.out]; omega
                have hST := hits_step (u4.l.map T.n) hq4
                have hg1 : (u4.l.map T.n).getD (2 * q) 0 = (u4.l[2 * q]'(by have := HL4.out; omega)).n := by rw [List.getD_eq_getElem?_getD, List.getElem?_map, List.getElem?_eq_getElem]; rfl
                have hg2 : (u4.l.map T.n).getD (2 * q + 1) 0 = (u4.l[2 * q + 1]'(by have := HL4.out; omega)).n := by rw [List.getD_eq_getElem?_getD, List.getElem?_map, List.getElem?_eq_getElem]; rfl
                rw [← hg1, show ov + 2 * q * 4 + 1 = ov + 8 * q + 1 by omega] at q1
                rw [← hg2, show ov + (2 * q + 1) * 4 + 1 = ov + 8 * q + 4 + 1 by omega] at q2
                have HST := Lib.hid hST
                have HP := Lib.hid hP
                have HAN := Lib.hid (show ∀ pv' ov', A4 = some ⟨pv', ov', none⟩ → some (⟨pv, ov + 8 * q + 8, none⟩ : Addr) = some ⟨pv', ov' + 8 * (q + 1), none⟩ from fun pv' ov' e => by
                  rw [hA4] at e
                  injection e with e
                  injection e with e1 e2 _
                  subst e1 e2
                  rw [show ov + 8 * q + 8 = ov + 8 * (q + 1) by omega])
                have hnz : ((n0 + 2 : Nat) : Int) > 1 := by omega
                have hqb : q ≤ 65536 := by omega
                clear hel hEls hP hST hg1 hg2 hAk hA4 hq4
                generalize (u4.l.map T.n).getD (2 * q) 0 = X1 at *
                generalize (u4.l.map T.n).getD (2 * q + 1) 0 = X2 at *
                generalize ov + 8 * q = o8 at *
                by_cases hc0 : c0 = 0
                · subst hc0
                  obtain rfl : n0 = 0 := by omega
                  go_wp2_with fail
                  go_region_law (refine step_append_lies _ rfl (.tmp 82) (.tmp 92) 26 rfl b 52 i0 _ 2 16 Tryd.underlying26 hi hz0 hz1 hz2 rfl (by decide) (.slice Ah q ch) q (hits ((hitsOf (u4.l.map T.n)).take q)) rfl (by first | exact HP.out.hown.alloc _ | exact (own_drewN HP.out.hown _).alloc _) _ 1 1 _ rfl rfl (news_hit _ X1 X2) (hit_one X1 X2) (by decide) (by unfold maxLen; omega) (by omega) (by simp; omega) _ rfl ?_; intro g' cap w3 hown3 hgr3 hlies hlt3; rw [← HST.out] at hown3; have HN := Lib.hid (HP.out.step hbs ((below_drewN (Below.refl _ wr) _).alloc (Nat.le_refl _) _) hown3 hgr3); have z1 := HN.out.z1; have z2 := HN.out.y1; have l3 := HN.out.l3; have HSZ := Lib.hid (show b ≤ w3.heap.size from Nat.le_trans hbs (by have := hgr3.size; simp at this; omega)); clear hown3 hgr3 hlies hlt3)
                  all_goals (
                    go_wp2_with fail
                    exact ⟨⟨_, q + 1, _, 0, 0, rfl, by omega, by omega, fun _ _ _ h => absurd h (by omega), HN.out.next, by have := HSZ.out; simp; exact this⟩, by simp⟩)
                · have hc2n : ¬ c0 + 2 = 2 := by omega
                  have hi0 : (0 : Int) < (n0 : Int) + 2 := by omega
                  have hi1 : (1 : Int) < (n0 : Int) + 2 := by omega
                  have hi2 : (2 : Int) ≤ (n0 : Int) + 2 := by omega
                  have hi3 : (2 : Int) ≤ (c0 : Int) + 2 := by omega
                  have hi4 : (n0 : Int) + 2 ≤ (c0 : Int) + 2 := by omega
                  go_wp2_with fail
                  go_region_law (refine step_append_lies _ rfl (.tmp 82) (.tmp 92) 26 rfl b 52 i0 _ 2 16 Tryd.underlying26 hi hz0 hz1 hz2 rfl (by decide) (.slice Ah q ch) q (hits ((hitsOf (u4.l.map T.n)).take q)) rfl (by first | exact HP.out.hown.alloc _ | exact (own_drewN HP.out.hown _).alloc _) _ 1 1 _ rfl rfl (news_hit _ X1 X2) (hit_one X1 X2) (by decide) (by unfold maxLen; omega) (by omega) (by simp; omega) _ rfl ?_; intro g' cap w3 hown3 hgr3 hlies hlt3; rw [← HST.out] at hown3; have HN := Lib.hid (HP.out.step hbs ((below_drewN (Below.refl _ wr) _).alloc (Nat.le_refl _) _) hown3 hgr3); have z1 := HN.out.z1; have z2 := HN.out.y1; have l3 := HN.out.l3; have HSZ := Lib.hid (show b ≤ w3.heap.size from Nat.le_trans hbs (by have := hgr3.size; simp at this; omega)); clear hown3 hgr3 hlies hlt3)
                  all_goals (
                    go_wp2_with fail
                    exact ⟨⟨_, q + 1, _, n0, c0, rfl, by omega, by omega, fun pv' ov' e _ => HAN.out pv' ov' e, HN.out.next, by have := HSZ.out; simp; exact this⟩, by simp⟩)
              · have hnz : ¬ (nk : Int) > 1 := by omega
                have htq : (hitsOf (u4.l.map T.n)).take q = hitsOf (u4.l.map T.n) := List.take_of_length_le (by rw [HLH.out]; omega)
                rw [htq] at hP
                have HP := Lib.hid hP
                have HRV := Lib.hid (Reads.of_own hP.own)
                have HRH := Lib.hid (Reads.of_own hP.hown)
                have HQ := Lib.hid (show k ≤ 70000 ∧ q ≤ 70000 from ⟨by omega, by omega⟩)
                clear y1 yl htq hP hAk
                go_wp2_with (first
                  | refine ld_msg HP.out.row rfl rfl _ rfl rfl ?_
                  | (refine st_msg (ys := msgC (mkM ns x12 (x13 == 1) (u2.l.map T.n) (hitsOf (u4.l.map T.n))) (.slice Aq k cq) (.slice Ah q ch)) HP.out.rz rfl rfl (msgC_one _ Aq k cq Ah q ch) rfl _ _ rfl rfl rfl ?_; intro W' hr' hs' hg'))
                have hlt0 := HP.out.row.lt
                have hR1 := Reads.of_own (own_keep HP.out.own (fun g e => hg'.block g (HP.out.own.lt g e).2 (fun e2 => by injection e2 with e2; have := (HP.out.own.lt g e).1; omega)))
                have hR2 := Reads.of_own (own_keep HP.out.hown (fun g e => hg'.block g (HP.out.hown.lt g e).2 (fun e2 => by injection e2 with e2; have := (HP.out.hown.lt g e).1; have := HP.out.lb; omega)))
                refine bodyPost_ret (res_msg Tryd.results52 _ hr' rfl rfl rfl) rfl ⟨HP.out.bel.grown hg' HP.out.bel.size (fun g e => by cases e; exact Nat.le_refl _), ?_⟩
                rw [HOF.out]
                exact ⟨Aq, k, cq, Ah, q, ch, rfl, hR1, hR2, HQ.out.1, HQ.out.2, fun ad e => by have := own_new HP.out.own ad e; omega, fun ad e => by have := own_new HP.out.hown ad e; have := HP.out.lb; omega⟩
end Go.Proofs.YtcbkgcnajplagaaDoor.Po
