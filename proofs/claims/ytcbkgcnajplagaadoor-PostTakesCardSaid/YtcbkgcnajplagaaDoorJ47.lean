/- What Take of the document's answers returns. Conditions: up to 300000 bytes. -/
import Derived.Test.YtcbkgcnajplagaaDoorJ35
import Derived.Test.YtcbkgcnajplagaaDoorJ26
import Derived.Test.YtcbkgcnajplagaaDoorJ42
import Derived.Test.YtcbkgcnajplagaaDoorJ46
import Derived.Test.YtcbkgcnajplagaaDoorJ33
import Derived.BigRegion
import Derived.Deep.RegionHeld3
import Derived.Deep.Cut
import Derived.Deep.CutRange
set_option linter.unusedVariables false
set_option linter.unusedSimpArgs false
set_option maxRecDepth 100000
namespace Go.Proofs.YtcbkgcnajplagaaDoor.Po
open Go Go.RowKit
open Be (T kindsOk kindsOkL deepT deepL wfT wfL tidy tidyL onlyRes takeRes gdT RdL Rd RdA ReadsP Keeps)
theorem nums_els {w w' : World} {pv ov : Nat} {l : List T} (h : Els w pv ov l) (hb : Below w.heap.size w w') {B : Nat} (hB : pv < B) {n : Nat} (hn : n = l.length) : NumsAt w' B (some ⟨pv, ov, none⟩) n (l.map T.n) := by
  subst hn
  refine ⟨by simp, fun h0 => ⟨_, rfl, hB, fun k hk => ?_⟩⟩
  obtain ⟨_, _, _, h1, _, _⟩ := (h w' hb).2 k hk
  rw [add_flat]
  show w'.cell? ⟨pv, ov + k * 4 + 1, none⟩ = _
  rw [h1, List.getD_eq_getElem?_getD, List.getElem?_map, List.getElem?_eq_getElem hk]
  rfl
theorem nums_none {w : World} {B : Nat} {A : Option Addr} : NumsAt w B A 0 [] := ⟨rfl, fun h => absurd h (by omega)⟩
/-- The numbers of a list that reads as trees. -/
theorem nums_of {ok : Nat → Prop} {w w' : World} {A : Option Addr} {l : List T} {xs : List Value} (hr : ReadsP ok w 4 A l.length xs) (hl : RdL ok w l xs) (hb : Below w.heap.size w w') : NumsAt w' w'.heap.size A l.length (l.map T.n) := by
  by_cases h0 : 0 < l.length
  · obtain ⟨pv, ov, rfl, hE⟩ := els_at hr hl h0
    exact nums_els hE hb ((hE w' hb).1) rfl
  · have : l = [] := List.eq_nil_of_length_eq_zero (by omega)
    subst this
    exact nums_none
theorem pick_not {s : ByteArray} (h : (alls s.data.toList).1.length ≠ 2 ∨ (alls s.data.toList).2 ≠ s.size) : takeM s = none := pickF_no h
theorem pick_is {s : ByteArray} {a b : List UInt8} (h1 : (alls s.data.toList).1 = [a, b]) (h2 : (alls s.data.toList).2 = s.size) : takeM s = pickM s a b := by
  have e : alls s.data.toList = ([a, b], s.size) := Prod.ext h1 h2
  unfold takeM
  rw [e]
  show (if s.size = s.size then pickM s a b else none) = _
  rw [if_pos rfl]
theorem allF_le (l : List UInt8) : ∀ f k, ∀ t ∈ (allF l f k).1, t.length ≤ l.length
  | 0, k, t, h => by simp [allF] at h
  | f + 1, k, t, h => by
    by_cases he : (tkL (l.drop k)).2.2 = 0
    · obtain ⟨u, n, hr⟩ : ∃ u n, tkL (l.drop k) = (u, n, 0) := ⟨_, _, by rw [← he]⟩
      rw [allF_ok hr] at h
      simp only [List.mem_cons] at h
      rcases h with rfl | h
      · have := (tkL_ok hr).2.2.2.2.2.1
        rw [this, List.length_take, List.length_drop, List.length_drop]
        omega
      · exact allF_le l f _ t h
    · rw [allF_no he] at h
      simp at h
theorem addr_zero (a : Addr) : a.add 0 = a := by unfold Addr.add; simp
theorem addr_one (a : Addr) : a.add 1 = ⟨a.block, a.off + 1, none⟩ := by unfold Addr.add; simp
theorem pick_err {s : ByteArray} {a b : List UInt8} {x : Int} (h : onlyRes a = .error x) : pickM s a b = none := by unfold pickM; rw [h]
theorem pick_few {s : ByteArray} {a b : List UInt8} {t : T} (h : onlyRes a = .ok t) (hl : t.l.length ≠ 15) : pickM s a b = none := by
  unfold pickM
  rw [h]
  simp only
  rw [ofVals_no hl]
theorem sub_nums {w w' : World} {pb q : Nat} {u : T} {A' : Option Addr} {c' : Nat} (h : Sub w pb q u A' c') (hb : Below w.heap.size w w') : NumsAt w' w'.heap.size A' u.l.length (u.l.map T.n) := by
  by_cases h0 : 0 < u.l.length
  · obtain ⟨pv, ov, rfl, hE⟩ := h.2.2.2 h0
    exact nums_els hE hb ((hE w' hb).1) rfl
  · have e : u.l = [] := List.eq_nil_of_length_eq_zero (by omega)
    rw [e]
    exact nums_none
def rM9 (z0 z1 z2 z3 z4 z5 z6 z7 z8 z9 z10 : Int) (TX : ByteArray) : M := ⟨z0, z1, z2, z3, z4, z5, z6, z7, z8, z9, z10, [], 0, false, [], TX⟩
theorem cell_set_ne (w : World) (a : Addr) (u : Value) {p : Addr} (h : p.block ≠ a.block) : (w.setCell a u).cell? p = w.cell? p := World.cell?_of_block (heap_set_ne w a u h)
theorem keep4 {w : World} {b i j k l : Nat} {u0 u1 u2 u3 v : Value} {p : Addr} (h : w.cell? p = some v) (hne : p.block ≠ b) : ((((w.setCell ⟨b, i, none⟩ u0).setCell ⟨b, j, none⟩ u1).setCell ⟨b, k, none⟩ u2).setCell ⟨b, l, none⟩ u3).cell? p = some v := by
  rw [cell_set_ne _ _ _ hne, cell_set_ne _ _ _ hne, cell_set_ne _ _ _ hne, cell_set_ne _ _ _ hne]
  exact h
/-- The hits as they grow in a message's variable. -/
structure Q3 (w wr : World) (p b : Nat) (m : M) (va vb : Value) (j : Nat) (L : List Int) (k : Nat) (H : List (Int × Int)) : Prop where
  rz : Row wr w.heap.size 30 zC
  row : Row wr (p) 30 (msgC m va vb)
  own : wr.ownsRow (p + 1) 3 1 va j (ints L)
  sep : ∀ g, va.ownBlock = some g → g < b
  hown : wr.ownsRow b 52 2 vb k (hits H)
  bel : Below w.heap.size w wr
  lb : p < b
  lw : w.heap.size < p
structure O3 (w w3 : World) (p b : Nat) (m : M) (va vb v' : Value) (j : Nat) (L : List Int) (k : Nat) (H : List (Int × Int)) : Prop where
  z1 : w3.frozen? ⟨p, 14, none⟩ = false
  y1 : w3.cell? ⟨p, 14, none⟩ = some vb
  l3 : p < w3.heap.size
  next : Q3 w (w3.setCell ⟨p, 14, none⟩ v') p b m va v' j L k H
theorem Q3.step {w wr wd w3 : World} {p b : Nat} {m : M} {va vb v' : Value} {j : Nat} {L : List Int} {k k' : Nat} {H H' : List (Int × Int)} (h : Q3 w wr p b m va vb j L k H) (hbr : b ≤ wr.heap.size) (hd : Below wr.heap.size wr wd) (ho : w3.ownsRow b 52 2 v' k' (hits H')) (hg : wd.grownBy w3 vb.ownBlock) : O3 w w3 p b m va vb v' j L k' H' := by
  have hlb := h.lb
  have hlw := h.lw
  have hl1 := h.row.lt
  have hb : Below b wd w3 := below_own (keep_none h.hown hd) hg (by have := hd.size; omega)
  have hb2 : Below b wr w3 := (hd.mono hbr).trans hb
  have r3 := h.row.keep (hb2.block (p) hlb)
  have r0 := h.rz.keep (hb2.block w.heap.size (by omega))
  have ho2 := own_keep h.own (fun g e => hb2.block g (h.sep g e))
  refine ⟨r3.frozen 14, r3.cell (j := 14) rfl, r3.lt, r0.keep (heap_set_ne _ _ _ (by show w.heap.size ≠ p; omega)), r3.set 14 v', ownsRow_setCell_below ho2 (a := ⟨p, 14, none⟩) (by show p < p + 1; omega) v', h.sep, ownsRow_setCell_below ho (a := ⟨p, 14, none⟩) (by show p < b; omega) v', below_setCell (h.bel.trans (hb2.mono (by omega))) (p := ⟨p, 14, none⟩) (by show w.heap.size ≤ p; omega) v', h.lb, h.lw⟩
theorem Q3.belw {w wr wd w3 : World} {p b : Nat} {m : M} {va vb : Value} {j : Nat} {L : List Int} {k : Nat} {H : List (Int × Int)} (h : Q3 w wr p b m va vb j L k H) (hbr : b ≤ wr.heap.size) (hd : Below wr.heap.size wr wd) (hg : wd.grownBy w3 vb.ownBlock) : Below b wr w3 :=
  (hd.mono hbr).trans (below_own (keep_none h.hown hd) hg (by have := hd.size; omega))
theorem reads_set {w : World} {B size n : Nat} {A : Option Addr} {xs : List Value} (h : Reads w B size A n xs) {p : Addr} (ha : ∀ ad, A = some ad → ad.block ≠ p.block) (u : Value) : Reads (w.setCell p u) B size A n xs :=
  ⟨h.1, fun hn => by
    obtain ⟨ad, e, hb, hc⟩ := h.2 hn
    exact ⟨ad, e, hb, fun j v hv => (cell_set_ne _ _ _ (by rw [block_of_add]; exact ha ad e)).trans (hc j v hv)⟩⟩
theorem own_down {w : World} {b b' e s : Nat} {v : Value} {n : Nat} {xs : List Value} (h : w.ownsRow b e s v n xs) (hb : b' ≤ b) : w.ownsRow b' e s v n xs := by
  refine ⟨h.1, h.2.imp id fun ⟨g, cap, cur, hv, hbg, r⟩ => ⟨g, cap, cur, hv, Nat.le_trans hb hbg, r⟩⟩
theorem step_st_msg {ops : Array Oper} {o : Oper} {a : Act} {K : Act → World → Prop} {Q : Exit → Act → World → Prop} {E : Prop} {W : World} {b : Nat} {xs ys : List Value} (hR : Row W b 30 xs) (hx16 : xs.length = 16) (hl : ys.length = 16) (h1 : ∀ v ∈ ys, v.oneCell' = true) (hgd : o.guard = none) (x y : Operand) (ho : o.op = .store 30 x y) (hx : a.eval x = .pointer (some ⟨b, 0, none⟩)) (hy : a.eval y = .agg ys.toArray)
    (h : ∀ W', Row W' b 30 ys → W'.heap.size = W.heap.size → W.grownBy W' (some b) → K (a.put o.dst undef) W') : if Region.wanted o (yielded ops a.tmps) = true then Oper.wp Tryd.prog o a W K Q else E := by
  have hw : Region.wanted o (yielded ops a.tmps) = true := by simp [Region.wanted, hgd]
  rw [if_pos hw]
  have hst := run_storeVar_row (P := Tryd.prog) W b 30 30 xs.toArray ys.toArray hR (by simpa [hl] using msg16) (by simp [hl, hx16]) (all_oneCell_toArray h1)
  obtain ⟨f1, f2, f3⟩ := setRow_facts hR ys
  unfold Oper.wp execOp
  simp only [ho, hx, hy, Instr.storeAt, Instr.sureAddr, Sem.run_bind, Sem.run_pure, Result.andThen_ok, hst]
  exact h _ f1 f2 f3
theorem cell_grown {w w' : World} {r : Option Nat} (hg : w.grownBy w' r) {p : Addr} {u : Value} (h : w.cell? p = some u) (hne : ∀ g, r = some g → g ≠ p.block) : w'.cell? p = some u := by
  have hl : p.block < w.heap.size := by
    rcases Nat.lt_or_ge p.block w.heap.size with h' | h'
    · exact h'
    · simp [World.cell?, Array.getElem?_eq_none h'] at h
  rw [← h]
  exact World.cell?_of_block (hg.block _ hl (fun e => hne _ e.symm rfl))
def rM8 (z0 z1 z2 z3 z4 z5 z6 z7 : Int) (TX : ByteArray) : M := ⟨z0, z1, z2, z3, z4, z5, z6, z7, 0, 0, 0, [], 0, false, [], TX⟩
set_option maxHeartbeats 16000000 in
theorem rtake_any (s : ByteArray) (hs : s.size ≤ 300000) {w : World} : Calls Tryd.prog 15 #[.string s] w (TkPost (takeM s) w) := by
  obtain ⟨W, hW⟩ : ∃ W, W = w.alloc (.cells zC.toArray 30) := ⟨_, rfl⟩
  have hb0 : Below w.heap.size w W := by rw [hW]; exact (Below.refl _ w).alloc (Nat.le_refl _) _
  have hRz : Row W w.heap.size 30 zC := by rw [hW]; exact Row.new w 30 zC
  have KR := Lib.hid (fun w1 (hb : Below W.heap.size W w1) => show Row w1 w.heap.size 30 zC ∧ Below w.heap.size w w1 from
    ⟨hRz.keep (hb.block _ hRz.lt), hb0.trans (hb.mono hb0.size)⟩)
  have HAL := Lib.hid (rall_any s hs W)
  have HW := Lib.hid hW
  have hWl : w.heap.size < W.heap.size := hRz.lt
  clear hRz hb0 hW
  obtain ⟨ls, q, hlq⟩ : ∃ ls q, alls s.data.toList = (ls, q) := ⟨_, _, rfl⟩
  have hNO := pick_not (s := s)
  have hYES := fun a b => pick_is (s := s) (a := a) (b := b)
  have hAS : ∀ t ∈ (alls s.data.toList).1, t.length ≤ 300000 := fun t ht => by
    have := allF_le s.data.toList _ _ t ht
    rw [size_list] at this
    omega
  rw [hlq] at hNO hYES HAL hAS
  simp only at hNO hYES hAS
  clear hlq
  go_enter Tryd.func15, Tryd.ntmps15
  unfold zC msgC zM at HW
  go_wp2_with fail
  rw [← HW.out]
  refine HAL.out.mono ?_
  intro en w1 hpost
  unfold RAllPost at hpost
  obtain ⟨Al, nl, cl, rfl, hRl, hb1, hlc, hcm⟩ := hpost
  simp only at hRl ⊢
  have hnl := reads_len hRl
  by_cases h2 : nl = 2 ∧ q = s.size
  rotate_left
  · as_aux_lemma =>
    have HN := Lib.hid (hNO (by omega))
    have HK := Lib.hid (KR.out w1 hb1)
    clear hNO hYES hRl hb1 hnl hAS
    by_cases h3 : nl = 2
    · have hqz : ((q : Int) != (s.size : Int)) = true := by rw [bne_iff_ne]; omega
      subst h3
      have h2f : (((2 : Nat) : Int) != 2) = false := rfl
      go_wp2_with (refine st_msg (ys := zC) HK.out.1 rfl rfl zC_one rfl _ _ rfl rfl rfl ?_; intro W' hr' hs' hg')
      exact bodyPost_ret (res_msg Tryd.results15 _ hr' rfl rfl rfl) rfl (tkPost_no HN.out HK.out.2 hg')
    · have hnz : ((nl : Int) != 2) = true := by rw [bne_iff_ne]; omega
      go_wp2_with (refine st_msg (ys := zC) HK.out.1 rfl rfl zC_one rfl _ _ rfl rfl rfl ?_; intro W' hr' hs' hg')
      exact bodyPost_ret (res_msg Tryd.results15 _ hr' rfl rfl rfl) rfl (tkPost_no HN.out HK.out.2 hg')
  obtain ⟨rfl, rfl⟩ := h2
  obtain ⟨a, b, rfl⟩ : ∃ a b, ls = [a, b] := by
    match ls, hnl with
    | [a, b], _ => exact ⟨a, b, rfl⟩
  have hT := hYES a b rfl rfl
  obtain ⟨gl, hAl, hgl, hc0⟩ := reads_str hRl (k := 0) (by omega)
  obtain ⟨gl', hAl', _, hc1⟩ := reads_str hRl (k := 1) (by omega)
  rw [hAl] at hAl'
  injection hAl' with hAl'
  subst hAl' hAl
  simp only [List.getD_cons_zero, List.getD_cons_succ] at hc0 hc1
  rw [addr_zero] at hc0
  rw [addr_one] at hc1
  have hal : (⟨a.toArray⟩ : ByteArray).size ≤ 300000 := by
    have := hAS a (by simp)
    show a.toArray.size ≤ 300000
    simp
    omega
  have HON := Lib.hid (Be.ronly_any ⟨a.toArray⟩ (by omega) w1)
  rw [show (⟨a.toArray⟩ : ByteArray).data.toList = a from rfl] at HON
  obtain ⟨S, hS⟩ : ∃ S : ByteArray, (⟨a.toArray⟩ : ByteArray) = S := ⟨_, rfl⟩
  obtain ⟨TX, hTX⟩ : ∃ TX : ByteArray, (⟨b.toArray⟩ : ByteArray) = TX := ⟨_, rfl⟩
  rw [hS] at HON hc0
  rw [hTX] at hc1
  have hx2 : ((2 : Nat) : Int) = 2 := rfl
  have HB1 := Lib.hid hb1
  have HTX := Lib.hid hTX
  clear hNO hYES hRl hS hTX hal hb1 hAS hx2 hlc hcm hnl
  have hgl2 : gl.block < w1.heap.size := hgl
  cases ho : onlyRes a with
  | error x =>
    as_aux_lemma =>
    rw [ho] at HON
    have hx := only_err ho
    have hxb : (x != 0) = true := by simpa using hx
    have HN := Lib.hid (hT.trans (pick_err ho))
    clear ho hx hT
    go_wp2_with fail
    refine HON.out.mono ?_
    intro en w2 hpost
    unfold Be.OnPost at hpost
    obtain ⟨rfl, hb2⟩ := hpost
    obtain ⟨V, hV⟩ : ∃ V, V = w2.alloc (.cells #[.int .i64 0, .int .i64 0, .string ⟨#[]⟩, .slice none 0 0] 47) := ⟨_, rfl⟩
    have hbV := (HB1.out.trans (hb2.mono HB1.out.size)).trans ((show Below w2.heap.size w2 V by rw [hV]; exact (Below.refl _ w2).alloc (Nat.le_refl _) _).mono (Nat.le_trans HB1.out.size hb2.size))
    have rV : Row V w2.heap.size 47 [.int .i64 0, .int .i64 0, .string ⟨#[]⟩, .slice none 0 0] := by rw [hV]; exact Row.new w2 _ _
    have v0 := rV.cell (j := 0) rfl
    have v1 := rV.cell (j := 1) rfl
    have v2 := rV.cell (j := 2) rfl
    have v3 := rV.cell (j := 3) rfl
    have vl := rV.lt
    have HNM := Lib.hid (rnumbers_any (c := 0) 0 0 ⟨#[]⟩ (nums_none (w := V) (B := V.heap.size) (A := none)) (Nat.le_refl _) (by omega))
    have HV := Lib.hid hV
    have HBV := Lib.hid hbV
    clear hb2 hV hbV rV
    simp only [Be.zeroA]
    go_upto_region 5 with fail
    rw [← HV.out]
    go_wp2_with fail
    refine HNM.out.mono ?_
    intro en w3 hpost
    unfold NumsPost at hpost
    obtain ⟨A3, c3, b3, rfl, _, _, _, _, hb3⟩ := hpost
    have HK := Lib.hid (KR.out w3 (HBV.out.trans (hb3.mono HBV.out.size)))
    clear hb3
    go_wp2_with (refine st_msg (ys := zC) HK.out.1 rfl rfl zC_one rfl _ _ rfl rfl rfl ?_; intro W' hr' hs' hg')
    exact bodyPost_ret (res_msg Tryd.results15 _ hr' rfl rfl rfl) rfl (tkPost_no HN.out HK.out.2 hg')
  | ok t =>
    rw [ho] at HON
    have hsm := len_small ho
    have hFEW := fun h => hT.trans (pick_few ho h)
    have hPK : ∀ m, ofVals t.l TX = some m → takeM s = if mayM m = true ∧ txtB m = s then some m else none := fun m hm => by
      rw [hT]
      unfold pickM
      rw [ho]
      simp only
      rw [HTX.out, hm]
    have hFT : ∀ m, ofVals t.l TX = some m → FitM m := fun m hm => ofVals_fit ho hm
    clear ho hT
    go_wp2_with fail
    refine HON.out.mono ?_
    intro en w2 hpost
    unfold Be.OnPost at hpost
    obtain ⟨v, rfl, hRA, hb2⟩ := hpost
    obtain ⟨A, c, xs, rfl, _, hlc, hcm, hr, hrl⟩ := hRA
    obtain ⟨V, hV⟩ : ∃ V, V = w2.alloc (.cells #[.int .i64 t.k, .int .i64 t.n, .string t.s, .slice A t.l.length c] 47) := ⟨_, rfl⟩
    have hbv : Below w2.heap.size w2 V := by rw [hV]; exact (Below.refl _ w2).alloc (Nat.le_refl _) _
    have hbV := (hb2.trans (hbv.mono hb2.size))
    have rV : Row V w2.heap.size 47 [.int .i64 t.k, .int .i64 t.n, .string t.s, .slice A t.l.length c] := by rw [hV]; exact Row.new w2 _ _
    have v0 := rV.cell (j := 0) rfl
    have v1 := rV.cell (j := 1) rfl
    have v2 := rV.cell (j := 2) rfl
    have v3 := rV.cell (j := 3) rfl
    have vl := rV.lt
    have HNM := Lib.hid (rnumbers_any (c := c) t.k t.n t.s (nums_of hr hrl hbv) (Nat.le_refl _) (by have := hsm.1; omega))
    have HV := Lib.hid hV
    have HBV := Lib.hid (And.intro hbV (And.intro rV hbv))
    clear hV
    go_upto_region 5 with fail
    rw [← HV.out]
    go_wp2_with fail
    refine HNM.out.mono ?_
    intro en w3 hpost
    unfold NumsPost at hpost
    obtain ⟨A3, c3, b3, rfl, hb3s, hown3, hk3, hm3, hb3⟩ := hpost
    have hbw3 : Below w1.heap.size w1 w3 := HBV.out.1.trans (hb3.mono HBV.out.1.size)
    by_cases h15 : t.l.length = 15
    rotate_left
    · as_aux_lemma =>
      have HN := Lib.hid (hFEW h15)
      have HK := Lib.hid (KR.out w3 (HB1.out.trans (hbw3.mono HB1.out.size)))
      have hne : (((t.l.length : Nat) : Int) != 15) = true := by rw [bne_iff_ne]; omega
      clear hFEW hPK hFT hb2 hlc hcm hr hrl hbv hbV rV v0 v1 v2 v3 vl hsm hb3s hown3 hk3 hm3 hb3 hbw3
      generalize t.l.length = n at *
      go_wp2_with (refine st_msg (ys := zC) HK.out.1 rfl rfl zC_one rfl _ _ rfl rfl rfl ?_; intro W' hr' hs' hg')
      exact bodyPost_ret (res_msg Tryd.results15 _ hr' rfl rfl rfl) rfl (tkPost_no HN.out HK.out.2 hg')
    · obtain ⟨pb, po, hA, hEL⟩ := els_at hr hrl (by omega)
      subst hA
      obtain ⟨A2, c2, hS2⟩ := sub_at hr hrl (k := 11) (by omega) (q := po + 44 + 3) (by omega)
      obtain ⟨A4, c4, hS4⟩ := sub_at hr hrl (k := 14) (by omega) (q := po + 56 + 3) (by omega)
      have hn2 := hsm.2 t.l[11] (List.getElem_mem _)
      have hn4 := hsm.2 t.l[14] (List.getElem_mem _)
      have hOF := ofVals_15 h15
      obtain ⟨u2, hu2⟩ : ∃ u2, t.l[11] = u2 := ⟨_, rfl⟩
      obtain ⟨u4, hu4⟩ : ∃ u4, t.l[14] = u4 := ⟨_, rfl⟩
      rw [hu2] at hS2 hOF hn2
      rw [hu4] at hS4 hOF hn4
      have hE2 : ∀ w', Below w2.heap.size w2 w' → w'.cell? ⟨pb, po + 44, none⟩ = some (.int .i64 u2.k) ∧ w'.cell? ⟨pb, po + 44 + 1, none⟩ = some (.int .i64 u2.n) ∧ w'.cell? ⟨pb, po + 44 + 2, none⟩ = some (.string u2.s) := fun w' hb => by
        obtain ⟨_, _, e0, e1, e2, _⟩ := (hEL w' hb).2 11 (by omega)
        rw [hu2] at e0 e1 e2
        exact ⟨e0, e1, e2⟩
      have hE4 : ∀ w', Below w2.heap.size w2 w' → w'.cell? ⟨pb, po + 56, none⟩ = some (.int .i64 u4.k) ∧ w'.cell? ⟨pb, po + 56 + 1, none⟩ = some (.int .i64 u4.n) ∧ w'.cell? ⟨pb, po + 56 + 2, none⟩ = some (.string u4.s) := fun w' hb => by
        obtain ⟨_, _, e0, e1, e2, _⟩ := (hEL w' hb).2 14 (by omega)
        rw [hu4] at e0 e1 e2
        exact ⟨e0, e1, e2⟩
      have hpb := (hEL w2 (Below.refl _ w2)).1
      obtain ⟨ns, hns⟩ : ∃ ns : List Int, t.l.map T.n = ns := ⟨_, rfl⟩
      have hnl15 : ns.length = 15 := by rw [← hns]; simpa using h15
      rw [hns] at hOF hown3
      obtain ⟨gx, cap, hgA, hg1, hg2⟩ := hown3.form (by omega)
      injection hgA with hgA _ hgc
      subst hgA
      have hxc : ∀ i, i < 15 → w3.cell? ⟨gx, i, none⟩ = some (.int .i64 (ns.getD i 0)) := fun i hi => by
        have := hown3.cells (g := gx) rfl i (.int .i64 (ns.getD i 0)) (by unfold ints; rw [List.getElem?_map, List.getElem?_eq_getElem (by omega), List.getD_eq_getElem?_getD, List.getElem?_eq_getElem (by omega)]; rfl)
        rwa [add_flat, Nat.zero_add] at this
      have HOF := Lib.hid hOF
      have HPK := Lib.hid hPK
      have HFT := Lib.hid hFT
      have HXC := Lib.hid hxc
      have HE2 := Lib.hid hE2
      have HE4 := Lib.hid hE4
      have HS2 := Lib.hid hS2
      have HS4 := Lib.hid hS4
      have HW3 := Lib.hid (show Below w2.heap.size w2 w3 ∧ Below w1.heap.size w1 w3 ∧ Below V.heap.size V w3 ∧ w2.heap.size < V.heap.size from ⟨hbv.trans (hb3.mono hbv.size), hbw3, hb3, HBV.out.2.1.lt⟩)
      have hc1' := (hbw3.cell (p := ⟨gl.block, gl.off + 1, none⟩) hgl2).trans hc1
      have hgl3 : gl.block < w3.heap.size := Nat.lt_of_lt_of_le hgl2 hbw3.size
      have x0 := hxc 0 (by omega)
      have x1 := hxc 1 (by omega)
      have x2 := hxc 2 (by omega)
      have x3 := hxc 3 (by omega)
      have x4 := hxc 4 (by omega)
      have x5 := hxc 5 (by omega)
      have x6 := hxc 6 (by omega)
      have x7 := hxc 7 (by omega)
      have H15 := Lib.hid h15
      rw [h15]
      clear hFEW hPK hFT hb2 hlc hcm hr hrl hbv hbV rV v0 v1 v2 v3 vl hsm hb3s hown3 hk3 hm3 hb3 hbw3 hEL hS2 hS4 hOF hu2 hu4 hE2 hE4 hns hnl15 hxc hgc h15 hc0 hc1
      go_upto_region 8 with fail
      generalize hz0 : ns.getD 0 0 = z0 at *
      generalize hz1 : ns.getD 1 0 = z1 at *
      generalize hz2 : ns.getD 2 0 = z2 at *
      generalize hz3 : ns.getD 3 0 = z3 at *
      generalize hz4 : ns.getD 4 0 = z4 at *
      generalize hz5 : ns.getD 5 0 = z5 at *
      generalize hz6 : ns.getD 6 0 = z6 at *
      generalize hz7 : ns.getD 7 0 = z7 at *
      have HZS := Lib.hid (And.intro hz0 (And.intro hz1 (And.intro hz2 (And.intro hz3 (And.intro hz4 (And.intro hz5 (And.intro hz6 hz7)))))))
      clear hz0 hz1 hz2 hz3 hz4 hz5 hz6 hz7
      have hbA : Below w3.heap.size w3 (w3.drew.alloc (.cells zC.toArray 30)) := (Below.refl _ w3).drew.alloc (Nat.le_refl _) _
      have rA : Row (w3.drew.alloc (.cells zC.toArray 30)) w3.heap.size 30 zC := Row.new w3.drew _ _
      have HRA := Lib.hid (And.intro hbA rA)
      clear hbA rA
      refine wp_region_held_drew (S := (fun w' => w'.cell? ⟨gx, 0, none⟩ = some (.int .i64 z0) ∧ w'.cell? ⟨gx, 1, none⟩ = some (.int .i64 z1) ∧ w'.cell? ⟨gx, 2, none⟩ = some (.int .i64 z2) ∧ w'.cell? ⟨gx, 3, none⟩ = some (.int .i64 z3) ∧ w'.cell? ⟨gx, 4, none⟩ = some (.int .i64 z4) ∧ w'.cell? ⟨gx, 5, none⟩ = some (.int .i64 z5) ∧ w'.cell? ⟨gx, 6, none⟩ = some (.int .i64 z6) ∧ w'.cell? ⟨gx, 7, none⟩ = some (.int .i64 z7) ∧ w'.cell? ⟨gl.block, gl.off + 1, none⟩ = some (.string TX))) (by kernel_rfl) ?_ (fun hHeld => ?_)
      · exact ⟨x0, x1, x2, x3, x4, x5, x6, x7, hc1'⟩
      refine wpAnyH_take (i := 0) (oi := ⟨_, _, _, _, _, _⟩) (v := ?_) rfl (by kernel_rfl) (by kernel_rfl) (by kernel_rfl) (fun _ _ _ h => h) (Or.inl ⟨by rfl, ?_⟩) (by assumption) ?_
      rotate_left
      · intro w9 hSw; obtain ⟨s0, s1, s2, s3, s4, s5, s6, s7, s8⟩ := hSw; go_simp <;> with_reducible rfl
      try simp only [Act.put, List.setIfInBounds_toArray, List.set_cons_zero, List.set_cons_succ]
      refine wpAnyH_take (i := 1) (oi := ⟨_, _, _, _, _, _⟩) (v := ?_) rfl (by kernel_rfl) (by kernel_rfl) (by kernel_rfl) (fun _ _ _ h => h) (Or.inl ⟨by rfl, ?_⟩) (by assumption) ?_
      rotate_left
      · intro w9 hSw; obtain ⟨s0, s1, s2, s3, s4, s5, s6, s7, s8⟩ := hSw; go_simp <;> with_reducible rfl
      try simp only [Act.put, List.setIfInBounds_toArray, List.set_cons_zero, List.set_cons_succ]
      refine wpAnyH_take (i := 2) (oi := ⟨_, _, _, _, _, _⟩) (v := ?_) rfl (by kernel_rfl) (by kernel_rfl) (by kernel_rfl) (fun _ _ _ h => h) (Or.inl ⟨by rfl, ?_⟩) (by assumption) ?_
      rotate_left
      · intro w9 hSw; obtain ⟨s0, s1, s2, s3, s4, s5, s6, s7, s8⟩ := hSw; go_simp <;> with_reducible rfl
      try simp only [Act.put, List.setIfInBounds_toArray, List.set_cons_zero, List.set_cons_succ]
      refine wpAnyH_take (i := 3) (oi := ⟨_, _, _, _, _, _⟩) (v := ?_) rfl (by kernel_rfl) (by kernel_rfl) (by kernel_rfl) (fun _ _ _ h => h) (Or.inl ⟨by rfl, ?_⟩) (by assumption) ?_
      rotate_left
      · intro w9 hSw; obtain ⟨s0, s1, s2, s3, s4, s5, s6, s7, s8⟩ := hSw; go_simp <;> with_reducible rfl
      try simp only [Act.put, List.setIfInBounds_toArray, List.set_cons_zero, List.set_cons_succ]
      refine wpAnyH_take (i := 4) (oi := ⟨_, _, _, _, _, _⟩) (v := ?_) rfl (by kernel_rfl) (by kernel_rfl) (by kernel_rfl) (fun _ _ _ h => h) (Or.inl ⟨by rfl, ?_⟩) (by assumption) ?_
      rotate_left
      · intro w9 hSw; obtain ⟨s0, s1, s2, s3, s4, s5, s6, s7, s8⟩ := hSw; go_simp <;> with_reducible rfl
      try simp only [Act.put, List.setIfInBounds_toArray, List.set_cons_zero, List.set_cons_succ]
      refine wpAnyH_take (i := 5) (oi := ⟨_, _, _, _, _, _⟩) (v := ?_) rfl (by kernel_rfl) (by kernel_rfl) (by kernel_rfl) (fun _ _ _ h => h) (Or.inl ⟨by rfl, ?_⟩) (by assumption) ?_
      rotate_left
      · intro w9 hSw; obtain ⟨s0, s1, s2, s3, s4, s5, s6, s7, s8⟩ := hSw; go_simp <;> with_reducible rfl
      try simp only [Act.put, List.setIfInBounds_toArray, List.set_cons_zero, List.set_cons_succ]
      refine wpAnyH_take (i := 6) (oi := ⟨_, _, _, _, _, _⟩) (v := ?_) rfl (by kernel_rfl) (by kernel_rfl) (by kernel_rfl) (fun _ _ _ h => h) (Or.inl ⟨by rfl, ?_⟩) (by assumption) ?_
      rotate_left
      · intro w9 hSw; obtain ⟨s0, s1, s2, s3, s4, s5, s6, s7, s8⟩ := hSw; go_simp <;> with_reducible rfl
      try simp only [Act.put, List.setIfInBounds_toArray, List.set_cons_zero, List.set_cons_succ]
      refine wpAnyH_take (i := 7) (oi := ⟨_, _, _, _, _, _⟩) (v := ?_) rfl (by kernel_rfl) (by kernel_rfl) (by kernel_rfl) (fun _ _ _ h => h) (Or.inl ⟨by rfl, ?_⟩) (by assumption) ?_
      rotate_left
      · intro w9 hSw; obtain ⟨s0, s1, s2, s3, s4, s5, s6, s7, s8⟩ := hSw; go_simp <;> with_reducible rfl
      try simp only [Act.put, List.setIfInBounds_toArray, List.set_cons_zero, List.set_cons_succ]
      refine wpAnyH_take (i := 8) (oi := ⟨_, _, _, _, _, _⟩) (v := ?_) rfl (by kernel_rfl) (by kernel_rfl) (by kernel_rfl) (fun _ _ _ h => h) (Or.inl ⟨by rfl, ?_⟩) (by assumption) ?_
      rotate_left
      · intro w9 hSw; obtain ⟨s0, s1, s2, s3, s4, s5, s6, s7, s8⟩ := hSw; go_simp <;> with_reducible rfl
      try simp only [Act.put, List.setIfInBounds_toArray, List.set_cons_zero, List.set_cons_succ]
      refine wpAnyH_take (i := 9) (oi := ⟨_, _, _, _, _, _⟩) (v := ?_) rfl (by kernel_rfl) (by kernel_rfl) (by kernel_rfl) (fun _ _ _ h => h) (Or.inl ⟨by rfl, ?_⟩) (by assumption) ?_
      rotate_left
      · intro w9 hSw; obtain ⟨s0, s1, s2, s3, s4, s5, s6, s7, s8⟩ := hSw; go_simp <;> with_reducible rfl
      try simp only [Act.put, List.setIfInBounds_toArray, List.set_cons_zero, List.set_cons_succ]
      refine wpAnyH_take (i := 10) (oi := ⟨_, _, _, _, _, _⟩) (v := ?_) rfl (by kernel_rfl) (by kernel_rfl) (by kernel_rfl) (fun _ _ _ h => h) (Or.inl ⟨by rfl, ?_⟩) (by assumption) ?_
      rotate_left
      · intro w9 hSw; obtain ⟨s0, s1, s2, s3, s4, s5, s6, s7, s8⟩ := hSw; go_simp <;> with_reducible rfl
      try simp only [Act.put, List.setIfInBounds_toArray, List.set_cons_zero, List.set_cons_succ]
      refine wpAnyH_take (i := 11) (oi := ⟨_, _, _, _, _, _⟩) (v := ?_) rfl (by kernel_rfl) (by kernel_rfl) (by kernel_rfl) (fun _ _ _ h => h) (Or.inl ⟨by rfl, ?_⟩) (by assumption) ?_
      rotate_left
      · intro w9 hSw; obtain ⟨s0, s1, s2, s3, s4, s5, s6, s7, s8⟩ := hSw; go_simp <;> with_reducible rfl
      try simp only [Act.put, List.setIfInBounds_toArray, List.set_cons_zero, List.set_cons_succ]
      refine wpAnyH_take (i := 12) (oi := ⟨_, _, _, _, _, _⟩) (v := ?_) rfl (by kernel_rfl) (by kernel_rfl) (by kernel_rfl) (fun _ _ _ h => h) (Or.inl ⟨by rfl, ?_⟩) (by assumption) ?_
      rotate_left
      · intro w9 hSw; obtain ⟨s0, s1, s2, s3, s4, s5, s6, s7, s8⟩ := hSw; go_simp <;> with_reducible rfl
      try simp only [Act.put, List.setIfInBounds_toArray, List.set_cons_zero, List.set_cons_succ]
      refine wpAnyH_take (i := 13) (oi := ⟨_, _, _, _, _, _⟩) (v := ?_) rfl (by kernel_rfl) (by kernel_rfl) (by kernel_rfl) (fun _ _ _ h => h) (Or.inl ⟨by rfl, ?_⟩) (by assumption) ?_
      rotate_left
      · intro w9 hSw; obtain ⟨s0, s1, s2, s3, s4, s5, s6, s7, s8⟩ := hSw; go_simp <;> with_reducible rfl
      try simp only [Act.put, List.setIfInBounds_toArray, List.set_cons_zero, List.set_cons_succ]
      refine wpAnyH_take (i := 14) (oi := ⟨_, _, _, _, _, _⟩) (v := ?_) rfl (by kernel_rfl) (by kernel_rfl) (by kernel_rfl) (fun _ _ _ h => h) (Or.inl ⟨by rfl, ?_⟩) (by assumption) ?_
      rotate_left
      · intro w9 hSw; obtain ⟨s0, s1, s2, s3, s4, s5, s6, s7, s8⟩ := hSw; go_simp <;> with_reducible rfl
      try simp only [Act.put, List.setIfInBounds_toArray, List.set_cons_zero, List.set_cons_succ]
      refine wpAnyH_take (i := 15) (oi := ⟨_, _, _, _, _, _⟩) (v := ?_) rfl (by kernel_rfl) (by kernel_rfl) (by kernel_rfl) (fun _ _ _ h => h) (Or.inl ⟨by rfl, ?_⟩) (by assumption) ?_
      rotate_left
      · intro w9 hSw; obtain ⟨s0, s1, s2, s3, s4, s5, s6, s7, s8⟩ := hSw; go_simp <;> with_reducible rfl
      try simp only [Act.put, List.setIfInBounds_toArray, List.set_cons_zero, List.set_cons_succ]
      refine wpAnyH_take (i := 16) (oi := ⟨_, _, _, _, _, _⟩) (v := ?_) rfl (by kernel_rfl) (by kernel_rfl) (by kernel_rfl) (fun _ _ _ h => h) (Or.inl ⟨by rfl, ?_⟩) (by assumption) ?_
      rotate_left
      · intro w9 hSw; obtain ⟨s0, s1, s2, s3, s4, s5, s6, s7, s8⟩ := hSw; go_simp <;> with_reducible rfl
      try simp only [Act.put, List.setIfInBounds_toArray, List.set_cons_zero, List.set_cons_succ]
      refine wpAnyH_take (i := 17) (oi := ⟨_, _, _, _, _, _⟩) (v := ?_) rfl (by kernel_rfl) (by kernel_rfl) (by kernel_rfl) (fun _ _ _ h => h) (Or.inl ⟨by rfl, ?_⟩) (by assumption) ?_
      rotate_left
      · intro w9 hSw; obtain ⟨s0, s1, s2, s3, s4, s5, s6, s7, s8⟩ := hSw; go_simp <;> with_reducible rfl
      try simp only [Act.put, List.setIfInBounds_toArray, List.set_cons_zero, List.set_cons_succ]
      refine wpAnyH_take (i := 18) (oi := ⟨_, _, _, _, _, _⟩) (v := ?_) rfl (by kernel_rfl) (by kernel_rfl) (by kernel_rfl) (fun _ _ _ h => h) (Or.inl ⟨by rfl, ?_⟩) (by assumption) ?_
      rotate_left
      · intro w9 hSw; obtain ⟨s0, s1, s2, s3, s4, s5, s6, s7, s8⟩ := hSw; go_simp <;> with_reducible rfl
      try simp only [Act.put, List.setIfInBounds_toArray, List.set_cons_zero, List.set_cons_succ]
      refine wpAnyH_take (i := 19) (oi := ⟨_, _, _, _, _, _⟩) (v := ?_) rfl (by kernel_rfl) (by kernel_rfl) (by kernel_rfl) (fun _ _ _ h => h) (Or.inl ⟨by rfl, ?_⟩) (by assumption) ?_
      rotate_left
      · intro w9 hSw; obtain ⟨s0, s1, s2, s3, s4, s5, s6, s7, s8⟩ := hSw; go_simp <;> with_reducible rfl
      try simp only [Act.put, List.setIfInBounds_toArray, List.set_cons_zero, List.set_cons_succ]
      refine wpAnyH_take (i := 20) (oi := ⟨_, _, _, _, _, _⟩) (v := ?_) rfl (by kernel_rfl) (by kernel_rfl) (by kernel_rfl) (fun _ _ _ h => h) (Or.inl ⟨by rfl, ?_⟩) (by assumption) ?_
      rotate_left
      · intro w9 hSw; obtain ⟨s0, s1, s2, s3, s4, s5, s6, s7, s8⟩ := hSw; go_simp <;> with_reducible rfl
      try simp only [Act.put, List.setIfInBounds_toArray, List.set_cons_zero, List.set_cons_succ]
      refine wpAnyH_take (i := 21) (oi := ⟨_, _, _, _, _, _⟩) (v := ?_) rfl (by kernel_rfl) (by kernel_rfl) (by kernel_rfl) (fun _ _ _ h => h) (Or.inl ⟨by rfl, ?_⟩) (by assumption) ?_
      rotate_left
      · intro w9 hSw; obtain ⟨s0, s1, s2, s3, s4, s5, s6, s7, s8⟩ := hSw; go_simp <;> with_reducible rfl
      try simp only [Act.put, List.setIfInBounds_toArray, List.set_cons_zero, List.set_cons_succ]
      refine wpAnyH_take (i := 22) (oi := ⟨_, _, _, _, _, _⟩) (v := ?_) rfl (by kernel_rfl) (by kernel_rfl) (by kernel_rfl) (fun _ _ _ h => h) (Or.inl ⟨by rfl, ?_⟩) (by assumption) ?_
      rotate_left
      · intro w9 hSw; obtain ⟨s0, s1, s2, s3, s4, s5, s6, s7, s8⟩ := hSw; go_simp <;> with_reducible rfl
      try simp only [Act.put, List.setIfInBounds_toArray, List.set_cons_zero, List.set_cons_succ]
      refine wpAnyH_take (i := 23) (oi := ⟨_, _, _, _, _, _⟩) (v := ?_) rfl (by kernel_rfl) (by kernel_rfl) (by kernel_rfl) (fun _ _ _ h => h) (Or.inl ⟨by rfl, ?_⟩) (by assumption) ?_
      rotate_left
      · intro w9 hSw; obtain ⟨s0, s1, s2, s3, s4, s5, s6, s7, s8⟩ := hSw; go_simp <;> with_reducible rfl
      try simp only [Act.put, List.setIfInBounds_toArray, List.set_cons_zero, List.set_cons_succ]
      refine wpAnyH_take (i := 24) (oi := ⟨_, _, _, _, _, _⟩) (v := ?_) rfl (by kernel_rfl) (by kernel_rfl) (by kernel_rfl) (fun _ _ _ h => h) (Or.inl ⟨by rfl, ?_⟩) (by assumption) ?_
      rotate_left
      · intro w9 hSw; obtain ⟨s0, s1, s2, s3, s4, s5, s6, s7, s8⟩ := hSw; go_simp <;> with_reducible rfl
      try simp only [Act.put, List.setIfInBounds_toArray, List.set_cons_zero, List.set_cons_succ]
      refine wpAnyH_take (i := 25) (oi := ⟨_, _, _, _, _, _⟩) (v := ?_) rfl (by kernel_rfl) (by kernel_rfl) (by kernel_rfl) (fun _ _ _ h => h) (Or.inl ⟨by rfl, ?_⟩) (by assumption) ?_
      rotate_left
      · intro w9 hSw; obtain ⟨s0, s1, s2, s3, s4, s5, s6, s7, s8⟩ := hSw; go_simp <;> with_reducible rfl
      try simp only [Act.put, List.setIfInBounds_toArray, List.set_cons_zero, List.set_cons_succ]
      refine wpAnyH_take (i := 26) (oi := ⟨_, _, _, _, _, _⟩) (v := ?_) rfl (by kernel_rfl) (by kernel_rfl) (by kernel_rfl) (fun _ _ _ h => h) (Or.inl ⟨by rfl, ?_⟩) (by assumption) ?_
      rotate_left
      · intro w9 hSw; obtain ⟨s0, s1, s2, s3, s4, s5, s6, s7, s8⟩ := hSw; go_simp <;> with_reducible rfl
      try simp only [Act.put, List.setIfInBounds_toArray, List.set_cons_zero, List.set_cons_succ]
      refine wpAnyH_take (i := 27) (oi := ⟨_, _, _, _, _, _⟩) (v := ?_) rfl (by kernel_rfl) (by kernel_rfl) (by kernel_rfl) (fun _ _ _ h => h) (Or.inl ⟨by rfl, ?_⟩) (by assumption) ?_
      rotate_left
      · intro w9 hSw; obtain ⟨s0, s1, s2, s3, s4, s5, s6, s7, s8⟩ := hSw; go_simp <;> with_reducible rfl
      try simp only [Act.put, List.setIfInBounds_toArray, List.set_cons_zero, List.set_cons_succ]
      refine wpAnyH_ready (rs := [28]) (by kernel_rfl) (by simp) ?_
      refine AllReadyH.cons (o := ⟨_, _, _, _, _, _⟩) rfl (fun K hK => ?_) AllReadyH.nil
      go_simp
      refine hK.out _ _ ?_ (fun hHeld => ?_)
      · have hb := HRA.out.1; unfold zC msgC zM at hb; exact ⟨(hb.cell (p := ⟨gx, 0, none⟩) hg2).trans x0, (hb.cell (p := ⟨gx, 1, none⟩) hg2).trans x1, (hb.cell (p := ⟨gx, 2, none⟩) hg2).trans x2, (hb.cell (p := ⟨gx, 3, none⟩) hg2).trans x3, (hb.cell (p := ⟨gx, 4, none⟩) hg2).trans x4, (hb.cell (p := ⟨gx, 5, none⟩) hg2).trans x5, (hb.cell (p := ⟨gx, 6, none⟩) hg2).trans x6, (hb.cell (p := ⟨gx, 7, none⟩) hg2).trans x7, (hb.cell (p := ⟨gl.block, gl.off + 1, none⟩) hgl3).trans hc1'⟩
      clear hK K
      try simp only [Act.put, List.setIfInBounds_toArray, List.set_cons_zero, List.set_cons_succ]
      refine wpAnyH_ready (rs := [29]) (by kernel_rfl) (by simp) ?_
      refine AllReadyH.cons (o := ⟨_, _, _, _, _, _⟩) rfl (fun K hK => ?_) AllReadyH.nil
      refine step_st_msg (xs := zC) (ys := msgC (rM8 z0 z1 z2 z3 z4 z5 z6 z7 TX) (.slice none 0 0) (.slice none 0 0)) (by have h := HRA.out.2; unfold zC msgC zM at h; exact h) rfl rfl (msgC_one (rM8 z0 z1 z2 z3 z4 z5 z6 z7 TX) none 0 0 none 0 0) rfl _ _ rfl rfl rfl ?_; intro W8 hr8 hs8 hg8
      refine hK.out _ _ ?_ (fun hHeld => ?_)
      · exact ⟨cell_grown hg8 hHeld.1 (fun g e => by cases e; show w3.heap.size ≠ gx; omega), cell_grown hg8 hHeld.2.1 (fun g e => by cases e; show w3.heap.size ≠ gx; omega), cell_grown hg8 hHeld.2.2.1 (fun g e => by cases e; show w3.heap.size ≠ gx; omega), cell_grown hg8 hHeld.2.2.2.1 (fun g e => by cases e; show w3.heap.size ≠ gx; omega), cell_grown hg8 hHeld.2.2.2.2.1 (fun g e => by cases e; show w3.heap.size ≠ gx; omega), cell_grown hg8 hHeld.2.2.2.2.2.1 (fun g e => by cases e; show w3.heap.size ≠ gx; omega), cell_grown hg8 hHeld.2.2.2.2.2.2.1 (fun g e => by cases e; show w3.heap.size ≠ gx; omega), cell_grown hg8 hHeld.2.2.2.2.2.2.2.1 (fun g e => by cases e; show w3.heap.size ≠ gx; omega), cell_grown hg8 hHeld.2.2.2.2.2.2.2.2 (fun g e => by cases e; show w3.heap.size ≠ gl.block; omega)⟩
      clear hK K
      try simp only [Act.put, List.setIfInBounds_toArray, List.set_cons_zero, List.set_cons_succ]
      refine wpAnyH_done (by kernel_rfl) ?_ _
      have hb8 : Below w3.heap.size w3 W8 := by have h := HRA.out.1; unfold zC msgC zM at h; exact h.grown hg8 h.size (fun g e => by cases e; exact Nat.le_refl _)
      have hRv15 : Row V w2.heap.size 47 [.int .i64 t.k, .int .i64 t.n, .string t.s, .slice (some ⟨pb, po, none⟩) 15 c] := by rw [← H15.out]; exact HBV.out.2.1
      have hb28 : Below w2.heap.size w2 W8 := HW3.out.1.trans (hb8.mono HW3.out.1.size)
      have hbV8 : Below V.heap.size V W8 := HW3.out.2.2.1.trans (hb8.mono HW3.out.2.2.1.size)
      have hv8 := hRv15.keep (hbV8.block _ hRv15.lt)
      have v3 := hv8.cell (j := 3) rfl
      have vl := hv8.lt
      have y8 := (hb8.cell (p := ⟨gx, 8, none⟩) hg2).trans (HXC.out 8 (by omega))
      have y9 := (hb8.cell (p := ⟨gx, 9, none⟩) hg2).trans (HXC.out 9 (by omega))
      have y10 := (hb8.cell (p := ⟨gx, 10, none⟩) hg2).trans (HXC.out 10 (by omega))
      have hg2x : gx < w3.heap.size := hg2
      have hgx8 : gx < W8.heap.size := Nat.lt_of_lt_of_le hg2 hb8.size
      obtain ⟨e0, e1, e2⟩ := HE2.out W8 hb28
      have e3 := HS2.out.2.2.1 W8 hb28
      have hpb8 : pb < W8.heap.size := Nat.lt_of_lt_of_le hpb hb28.size
      have HNU := Lib.hid (rnumbers_any (c := c2) (w := W8.drew) u2.k u2.n u2.s (sub_nums (w' := W8.drew) HS2.out (show Below w2.heap.size w2 W8.drew from hb28.drew)) (Nat.le_refl _) (by omega))
      have hne2 : w2.heap.size < w3.heap.size := by have h1 := HW3.out.2.2.2; have h2 := HW3.out.2.2.1.size; omega
      have hne3 : pb < w3.heap.size := by omega
      have HR8 := Lib.hid (And.intro hr8 (And.intro hb8 (And.intro hv8 hb28)))
      clear hHeld hRv15 hbV8 hv8 hb28 hr8 hb8 hg8 hs8 x0 x1 x2 x3 x4 x5 x6 x7 hc1'
      obtain ⟨b8, hb8e⟩ : ∃ b8, w3.heap.size = b8 := ⟨_, rfl⟩
      rw [hb8e] at HR8 hg2 hg2x hne2 hne3 ⊢
      obtain ⟨z8, hz8⟩ : ∃ z, ns.getD 8 0 = z := ⟨_, rfl⟩
      obtain ⟨z9, hz9⟩ : ∃ z, ns.getD 9 0 = z := ⟨_, rfl⟩
      obtain ⟨z10, hz10⟩ : ∃ z, ns.getD 10 0 = z := ⟨_, rfl⟩
      rw [hz8] at y8
      rw [hz9] at y9
      rw [hz10] at y10
      have HZ2 := Lib.hid (And.intro hz8 (And.intro hz9 hz10))
      have HB8E := Lib.hid hb8e
      clear hz8 hz9 hz10 hb8e
      obtain ⟨n2, hn2e⟩ : ∃ n2, u2.l.length = n2 := ⟨_, rfl⟩
      obtain ⟨L2, hL2e⟩ : ∃ L2, u2.l.map T.n = L2 := ⟨_, rfl⟩
      rw [hn2e] at e3 HNU
      rw [hL2e] at HNU
      have HN2 := Lib.hid (And.intro hn2e hL2e)
      obtain ⟨L4, hL4e⟩ : ∃ L4, u4.l.map T.n = L4 := ⟨_, rfl⟩
      clear hn2e hL2e
      go_upto_region 9 with fail
      refine wp_region_held_drew (S := (fun w' => w'.cell? ⟨gx, 8, none⟩ = some (.int .i64 z8) ∧ w'.cell? ⟨gx, 9, none⟩ = some (.int .i64 z9) ∧ w'.cell? ⟨gx, 10, none⟩ = some (.int .i64 z10) ∧ w'.cell? ⟨w2.heap.size, 3, none⟩ = some (.slice (some ⟨pb, po, none⟩) 15 c) ∧ w'.cell? ⟨pb, po + 44, none⟩ = some (.int .i64 u2.k) ∧ w'.cell? ⟨pb, po + 44 + 1, none⟩ = some (.int .i64 u2.n) ∧ w'.cell? ⟨pb, po + 44 + 2, none⟩ = some (.string u2.s) ∧ w'.cell? ⟨pb, po + 44 + 3, none⟩ = some (.slice A2 n2 c2))) (by kernel_rfl) ?_ (fun hHeld => ?_)
      · exact ⟨y8, y9, y10, v3, e0, e1, e2, e3⟩
      refine wpAnyH_take (i := 0) (oi := ⟨_, _, _, _, _, _⟩) (v := ?_) rfl (by kernel_rfl) (by kernel_rfl) (by kernel_rfl) (fun _ _ _ h => h) (Or.inl ⟨by rfl, ?_⟩) (by assumption) ?_
      rotate_left
      · intro w9 hSw; obtain ⟨s0, s1, s2, s3, s4, s5, s6, s7⟩ := hSw; go_simp <;> with_reducible rfl
      try simp only [Act.put, List.setIfInBounds_toArray, List.set_cons_zero, List.set_cons_succ]
      refine wpAnyH_take (i := 1) (oi := ⟨_, _, _, _, _, _⟩) (v := ?_) rfl (by kernel_rfl) (by kernel_rfl) (by kernel_rfl) (fun _ _ _ h => h) (Or.inl ⟨by rfl, ?_⟩) (by assumption) ?_
      rotate_left
      · intro w9 hSw; obtain ⟨s0, s1, s2, s3, s4, s5, s6, s7⟩ := hSw; go_simp <;> with_reducible rfl
      try simp only [Act.put, List.setIfInBounds_toArray, List.set_cons_zero, List.set_cons_succ]
      refine wpAnyH_take (i := 2) (oi := ⟨_, _, _, _, _, _⟩) (v := ?_) rfl (by kernel_rfl) (by kernel_rfl) (by kernel_rfl) (fun _ _ _ h => h) (Or.inl ⟨by rfl, ?_⟩) (by assumption) ?_
      rotate_left
      · intro w9 hSw; obtain ⟨s0, s1, s2, s3, s4, s5, s6, s7⟩ := hSw; go_simp <;> with_reducible rfl
      try simp only [Act.put, List.setIfInBounds_toArray, List.set_cons_zero, List.set_cons_succ]
      refine wpAnyH_take (i := 3) (oi := ⟨_, _, _, _, _, _⟩) (v := ?_) rfl (by kernel_rfl) (by kernel_rfl) (by kernel_rfl) (fun _ _ _ h => h) (Or.inl ⟨by rfl, ?_⟩) (by assumption) ?_
      rotate_left
      · intro w9 hSw; obtain ⟨s0, s1, s2, s3, s4, s5, s6, s7⟩ := hSw; go_simp <;> with_reducible rfl
      try simp only [Act.put, List.setIfInBounds_toArray, List.set_cons_zero, List.set_cons_succ]
      refine wpAnyH_take (i := 4) (oi := ⟨_, _, _, _, _, _⟩) (v := ?_) rfl (by kernel_rfl) (by kernel_rfl) (by kernel_rfl) (fun _ _ _ h => h) (Or.inl ⟨by rfl, ?_⟩) (by assumption) ?_
      rotate_left
      · intro w9 hSw; obtain ⟨s0, s1, s2, s3, s4, s5, s6, s7⟩ := hSw; go_simp <;> with_reducible rfl
      try simp only [Act.put, List.setIfInBounds_toArray, List.set_cons_zero, List.set_cons_succ]
      refine wpAnyH_take (i := 5) (oi := ⟨_, _, _, _, _, _⟩) (v := ?_) rfl (by kernel_rfl) (by kernel_rfl) (by kernel_rfl) (fun _ _ _ h => h) (Or.inl ⟨by rfl, ?_⟩) (by assumption) ?_
      rotate_left
      · intro w9 hSw; obtain ⟨s0, s1, s2, s3, s4, s5, s6, s7⟩ := hSw; go_simp <;> with_reducible rfl
      try simp only [Act.put, List.setIfInBounds_toArray, List.set_cons_zero, List.set_cons_succ]
      refine wpAnyH_take (i := 6) (oi := ⟨_, _, _, _, _, _⟩) (v := ?_) rfl (by kernel_rfl) (by kernel_rfl) (by kernel_rfl) (fun _ _ _ h => h) (Or.inl ⟨by rfl, ?_⟩) (by assumption) ?_
      rotate_left
      · intro w9 hSw; obtain ⟨s0, s1, s2, s3, s4, s5, s6, s7⟩ := hSw; go_simp <;> with_reducible rfl
      try simp only [Act.put, List.setIfInBounds_toArray, List.set_cons_zero, List.set_cons_succ]
      refine wpAnyH_take (i := 7) (oi := ⟨_, _, _, _, _, _⟩) (v := ?_) rfl (by kernel_rfl) (by kernel_rfl) (by kernel_rfl) (fun _ _ _ h => h) (Or.inl ⟨by rfl, ?_⟩) (by assumption) ?_
      rotate_left
      · intro w9 hSw; obtain ⟨s0, s1, s2, s3, s4, s5, s6, s7⟩ := hSw; go_simp <;> with_reducible rfl
      try simp only [Act.put, List.setIfInBounds_toArray, List.set_cons_zero, List.set_cons_succ]
      refine wpAnyH_take (i := 8) (oi := ⟨_, _, _, _, _, _⟩) (v := ?_) rfl (by kernel_rfl) (by kernel_rfl) (by kernel_rfl) (fun _ _ _ h => h) (Or.inl ⟨by rfl, ?_⟩) (by assumption) ?_
      rotate_left
      · intro w9 hSw; obtain ⟨s0, s1, s2, s3, s4, s5, s6, s7⟩ := hSw; go_simp <;> with_reducible rfl
      try simp only [Act.put, List.setIfInBounds_toArray, List.set_cons_zero, List.set_cons_succ]
      refine wpAnyH_take (i := 9) (oi := ⟨_, _, _, _, _, _⟩) (v := ?_) rfl (by kernel_rfl) (by kernel_rfl) (by kernel_rfl) (fun _ _ _ h => h) (Or.inl ⟨by rfl, ?_⟩) (by assumption) ?_
      rotate_left
      · intro w9 hSw; obtain ⟨s0, s1, s2, s3, s4, s5, s6, s7⟩ := hSw; go_simp <;> with_reducible rfl
      try simp only [Act.put, List.setIfInBounds_toArray, List.set_cons_zero, List.set_cons_succ]
      refine wpAnyH_take (i := 10) (oi := ⟨_, _, _, _, _, _⟩) (v := ?_) rfl (by kernel_rfl) (by kernel_rfl) (by kernel_rfl) (fun _ _ _ h => h) (Or.inl ⟨by rfl, ?_⟩) (by assumption) ?_
      rotate_left
      · intro w9 hSw; obtain ⟨s0, s1, s2, s3, s4, s5, s6, s7⟩ := hSw; go_simp <;> with_reducible rfl
      try simp only [Act.put, List.setIfInBounds_toArray, List.set_cons_zero, List.set_cons_succ]
      refine wpAnyH_take (i := 11) (oi := ⟨_, _, _, _, _, _⟩) (v := ?_) rfl (by kernel_rfl) (by kernel_rfl) (by kernel_rfl) (fun _ _ _ h => h) (Or.inl ⟨by rfl, ?_⟩) (by assumption) ?_
      rotate_left
      · intro w9 hSw; obtain ⟨s0, s1, s2, s3, s4, s5, s6, s7⟩ := hSw; go_simp <;> with_reducible rfl
      try simp only [Act.put, List.setIfInBounds_toArray, List.set_cons_zero, List.set_cons_succ]
      refine wpAnyH_take (i := 12) (oi := ⟨_, _, _, _, _, _⟩) (v := ?_) rfl (by kernel_rfl) (by kernel_rfl) (by kernel_rfl) (fun _ _ _ h => h) (Or.inl ⟨by rfl, ?_⟩) (by assumption) ?_
      rotate_left
      · intro w9 hSw; obtain ⟨s0, s1, s2, s3, s4, s5, s6, s7⟩ := hSw; go_simp <;> with_reducible rfl
      try simp only [Act.put, List.setIfInBounds_toArray, List.set_cons_zero, List.set_cons_succ]
      refine wpAnyH_ready (rs := [13]) (by kernel_rfl) (by simp) ?_
      refine AllReadyH.cons (o := ⟨_, _, _, _, _, _⟩) rfl (fun K hK => ?_) AllReadyH.nil
      go_simp; go_at_call 34; refine HNU.out.mono ?_; intro en W9 hpost; unfold NumsPost at hpost; obtain ⟨A5, c5, b5, rfl, hb5s, hown5, hk5, hm5, hb89⟩ := hpost; have hb89' : Below W8.heap.size W8 W9 := (Below.refl _ W8).drew.trans hb89; have hr9 := HR8.out.1.keep (hb89'.block _ HR8.out.1.lt); have HR9 := Lib.hid (And.intro hr9 (And.intro hb89' (And.intro hown5 (show W8.heap.size ≤ b5 from hb5s)))); have HK5 := Lib.hid (And.intro hk5 hm5); have f8 := hr9.cell (j := 8) rfl; have f9 := hr9.cell (j := 9) rfl; have f10 := hr9.cell (j := 10) rfl; have f11 := hr9.cell (j := 11) rfl; have g8 := hr9.frozen 8; have g9 := hr9.frozen 9; have g10 := hr9.frozen 10; have g11 := hr9.frozen 11; have gl9 := hr9.lt; clear hr9 hown5 hb5s hk5 hm5 HNU
      refine hK.out _ _ ?_ (fun hHeld => ?_)
      · have hb := HR9.out.2.1; exact ⟨(hb.cell (p := ⟨gx, 8, none⟩) hgx8).trans y8, (hb.cell (p := ⟨gx, 9, none⟩) hgx8).trans y9, (hb.cell (p := ⟨gx, 10, none⟩) hgx8).trans y10, (hb.cell (p := ⟨w2.heap.size, 3, none⟩) vl).trans v3, (hb.cell (p := ⟨pb, po + 44, none⟩) hpb8).trans e0, (hb.cell (p := ⟨pb, po + 44 + 1, none⟩) hpb8).trans e1, (hb.cell (p := ⟨pb, po + 44 + 2, none⟩) hpb8).trans e2, (hb.cell (p := ⟨pb, po + 44 + 3, none⟩) hpb8).trans e3⟩
      clear hK K
      try simp only [Act.put, List.setIfInBounds_toArray, List.set_cons_zero, List.set_cons_succ]
      refine wpAnyH_take (i := 14) (oi := ⟨_, _, _, _, _, _⟩) (v := ?_) rfl (by kernel_rfl) (by kernel_rfl) (by kernel_rfl) (fun _ _ _ h => h) (Or.inl ⟨by rfl, ?_⟩) (by assumption) ?_
      rotate_left
      · intro w9 hSw; obtain ⟨s0, s1, s2, s3, s4, s5, s6, s7⟩ := hSw; go_simp <;> with_reducible rfl
      try simp only [Act.put, List.setIfInBounds_toArray, List.set_cons_zero, List.set_cons_succ]
      refine wpAnyH_take (i := 15) (oi := ⟨_, _, _, _, _, _⟩) (v := ?_) rfl (by kernel_rfl) (by kernel_rfl) (by kernel_rfl) (fun _ _ _ h => h) (Or.inl ⟨by rfl, ?_⟩) (by assumption) ?_
      rotate_left
      · intro w9 hSw; obtain ⟨s0, s1, s2, s3, s4, s5, s6, s7⟩ := hSw; go_simp <;> with_reducible rfl
      try simp only [Act.put, List.setIfInBounds_toArray, List.set_cons_zero, List.set_cons_succ]
      refine wpAnyH_ready (rs := [16]) (by kernel_rfl) (by simp) ?_
      refine AllReadyH.cons (o := ⟨_, _, _, _, _, _⟩) rfl (fun K hK => ?_) AllReadyH.nil
      go_simp
      refine hK.out _ _ ?_ (fun hHeld => ?_)
      · exact ⟨keep4 hHeld.1 (by show gx ≠ b8; omega), keep4 hHeld.2.1 (by show gx ≠ b8; omega), keep4 hHeld.2.2.1 (by show gx ≠ b8; omega), keep4 hHeld.2.2.2.1 (by show w2.heap.size ≠ b8; omega), keep4 hHeld.2.2.2.2.1 (by show pb ≠ b8; omega), keep4 hHeld.2.2.2.2.2.1 (by show pb ≠ b8; omega), keep4 hHeld.2.2.2.2.2.2.1 (by show pb ≠ b8; omega), keep4 hHeld.2.2.2.2.2.2.2 (by show pb ≠ b8; omega)⟩
      clear hK K
      try simp only [Act.put, List.setIfInBounds_toArray, List.set_cons_zero, List.set_cons_succ]
      refine wpAnyH_done (by kernel_rfl) ?_ _
      obtain ⟨W10, hW10⟩ : ∃ W10, (((W9.setCell ⟨b8, 8, none⟩ (.int .i64 z8)).setCell ⟨b8, 9, none⟩ (.int .i64 z9)).setCell ⟨b8, 10, none⟩ (.slice A5 n2 c5)).setCell ⟨b8, 11, none⟩ (.int .i64 z10) = W10 := ⟨_, rfl⟩
      have hr10 : Row W10 b8 30 (msgC (rM9 z0 z1 z2 z3 z4 z5 z6 z7 z8 z9 z10 TX) (.slice A5 n2 c5) (.slice none 0 0)) := by
        rw [← hW10]
        exact (((HR9.out.1.set 8 (.int .i64 z8)).set 9 (.int .i64 z9)).set 10 (.slice A5 n2 c5)).set 11 (.int .i64 z10)
      have hb8W9 := HR9.out.2.1
      have hs10 : W10.heap.size = W9.heap.size := by rw [← hW10]; simp
      have hk10 : ∀ b, b ≠ b8 → W10.heap[b]? = W9.heap[b]? := fun b hb => by
        rw [← hW10]
        exact (heap_set_ne _ _ _ hb).trans ((heap_set_ne _ _ _ hb).trans ((heap_set_ne _ _ _ hb).trans (heap_set_ne _ _ _ hb)))
      have hb310 : Below b8 W8 W10 := by
        rw [← hW10]
        have h0 : Below b8 W8 W9 := hb8W9.mono (Nat.le_of_lt HR8.out.1.lt)
        exact below_setCell (below_setCell (below_setCell (below_setCell h0 (p := ⟨b8, 8, none⟩) (Nat.le_refl _) _) (p := ⟨b8, 9, none⟩) (Nat.le_refl _) _) (p := ⟨b8, 10, none⟩) (Nat.le_refl _) _) (p := ⟨b8, 11, none⟩) (Nat.le_refl _) _
      have hown10 : W10.ownsRow (b8 + 1) 3 1 (.slice A5 n2 c5) n2 (ints L2) := by
        have h1 : W9.ownsRow (b8 + 1) 3 1 (.slice A5 n2 c5) n2 (ints L2) := own_down HR9.out.2.2.1 (by have := HR9.out.2.2.2; have := HR8.out.1.lt; omega)
        exact own_keep h1 (fun g e => hk10 g (by have := (h1.lt g e).1; omega))
      rw [hW10]
      have y12 := (hb310.cell (p := ⟨gx, 12, none⟩) hg2).trans ((HR8.out.2.1.cell (p := ⟨gx, 12, none⟩) hg2x).trans (HXC.out 12 (by omega)))
      have y13 := (hb310.cell (p := ⟨gx, 13, none⟩) hg2).trans ((HR8.out.2.1.cell (p := ⟨gx, 13, none⟩) hg2x).trans (HXC.out 13 (by omega)))
      obtain ⟨z12, hz12⟩ : ∃ z, ns.getD 12 0 = z := ⟨_, rfl⟩
      obtain ⟨z13, hz13⟩ : ∃ z, ns.getD 13 0 = z := ⟨_, rfl⟩
      rw [hz12] at y12
      rw [hz13] at y13
      have HZ3 := Lib.hid (And.intro hz12 hz13)
      have f12 := hr10.cell (j := 12) rfl
      have f13 := hr10.cell (j := 13) rfl
      have f14 := hr10.cell (j := 14) rfl
      have g12 := hr10.frozen 12
      have g13 := hr10.frozen 13
      have g14 := hr10.frozen 14
      have gl10 := hr10.lt
      have HR10 := Lib.hid (And.intro hr10 (And.intro hb310 (And.intro hown10 hs10)))
      clear hz12 hz13 hr10 hb310 hown10 hs10 hk10 hW10 hb8W9 f8 f9 f10 f11 g8 g9 g10 g11 gl9 y8 y9 y10 v3 e0 e1 e2 e3 hHeld hb89
      go_upto_region 10 with fail
      go_still_tail 9, (by kernel_rfl)
      change wpList _ _ _ _ _ W10.drew
      go_upto_region 11 with fail
      obtain ⟨W11, hW11⟩ : ∃ W11, (((W10.setCell ⟨b8, 12, none⟩ (.int .i64 z12)).setCell ⟨b8, 13, none⟩ (.bool (z13 == 1))).setCell ⟨b8, 14, none⟩ (.slice none 0 0)).drew = W11 := ⟨_, rfl⟩
      have hr11 : Row W11 b8 30 (msgC ⟨z0, z1, z2, z3, z4, z5, z6, z7, z8, z9, z10, L2, z12, z13 == 1, hitsOf L4, TX⟩ (.slice A5 n2 c5) (.slice none 0 0)) := by
        rw [← hW11]
        exact ((HR10.out.1.set 12 (.int .i64 z12)).set 13 (.bool (z13 == 1))).set 14 (.slice none 0 0)
      have hb811 : Below b8 W10 W11 := by
        rw [← hW11]
        exact (below_setCell (below_setCell (below_setCell (Below.refl b8 W10) (p := ⟨b8, 12, none⟩) (Nat.le_refl _) _) (p := ⟨b8, 13, none⟩) (Nat.le_refl _) _) (p := ⟨b8, 14, none⟩) (Nat.le_refl _) _).drew
      have hown11 : W11.ownsRow (b8 + 1) 3 1 (.slice A5 n2 c5) n2 (ints L2) := by
        rw [← hW11]
        exact ownsRow_setCell_below (ownsRow_setCell_below (ownsRow_setCell_below HR10.out.2.2.1 (a := ⟨b8, 12, none⟩) (by show b8 < b8 + 1; omega) _) (a := ⟨b8, 13, none⟩) (by show b8 < b8 + 1; omega) _) (a := ⟨b8, 14, none⟩) (by show b8 < b8 + 1; omega) _
      have hs11 : W11.heap.size = W10.heap.size := by rw [← hW11]; simp
      rw [hW11]
      have hb3 : Below b8 w3 W11 := (HR8.out.2.1.trans HR10.out.2.1).trans hb811
      have hb2 : Below w2.heap.size w2 W11 := HW3.out.1.trans (hb3.mono (by have := HW3.out.1.size; have := HB8E.out; omega))
      have hbW : Below W.heap.size W W11 := (HB1.out.trans (HW3.out.2.1.mono HB1.out.size)).trans (hb3.mono (by have := HB1.out.size; have := HW3.out.2.1.size; have := HB8E.out; omega))
      have hWb : W.heap.size ≤ b8 := by have := HB1.out.size; have := HW3.out.2.1.size; have := HB8E.out; omega
      have hv11 := HR8.out.2.2.1.keep ((HR10.out.2.1.trans hb811).block _ hne2)
      have v3 := hv11.cell (j := 3) rfl
      have vl := hv11.lt
      obtain ⟨e0, e1, e2⟩ := HE4.out W11 hb2
      have e3 := HS4.out.2.2.1 W11 hb2
      have hpb11 : pb < W11.heap.size := Nat.lt_of_lt_of_le hpb hb2.size
      obtain ⟨n4, hn4e⟩ : ∃ n4, u4.l.length = n4 := ⟨_, rfl⟩
      have HNU4 := Lib.hid (rnumbers_any (c := c4) (w := W11) u4.k u4.n u4.s (sub_nums HS4.out hb2) (Nat.le_refl _) (by omega))
      rw [hn4e] at e3 HNU4
      rw [hL4e] at HNU4
      have HN4 := Lib.hid (show L4.length = n4 by rw [← hL4e, List.length_map]; exact hn4e)
      have HX11 := Lib.hid (And.intro hr11 (And.intro hown11 (And.intro hbW (KR.out W11 hbW))))
      clear hr11 hb811 hown11 hs11 hW11 hb3 hb2 hbW hv11 hn4e f12 f13 f14 g12 g13 g14 gl10 y12 y13
      go_wp2_with fail
      refine HNU4.out.mono ?_
      intro en W12 hpost
      unfold NumsPost at hpost
      obtain ⟨A6, c6, b6, rfl, hb6s, hown6, hk6, hm6, hb12⟩ := hpost
      have hlw11 := HX11.out.1.lt
      have hQ : Q3 w W12 b8 W12.heap.size ⟨z0, z1, z2, z3, z4, z5, z6, z7, z8, z9, z10, L2, z12, z13 == 1, hitsOf L4, TX⟩ (.slice A5 n2 c5) (.slice none 0 0) n2 L2 0 [] :=
        ⟨HX11.out.2.2.2.1.keep (hb12.block _ (by omega)), HX11.out.1.keep (hb12.block _ hlw11), keep_none HX11.out.2.1 hb12, fun g e => by have := (HX11.out.2.1.lt g e).2; have := hb12.size; omega, World.ownsRow_nil .., HX11.out.2.2.2.2.trans (hb12.mono HX11.out.2.2.2.2.size), by have := hb12.size; omega, by omega⟩
      have HRD := Lib.hid (fun w' (hb : Below W12.heap.size W12 w') => (Reads.of_own hown6).below hb)
      have HQ := Lib.hid hQ
      have HLH := Lib.hid (show (hitsOf L4).length = n4 / 2 by rw [hitsOf_len, HN4.out])
      have HNA := Lib.hid (fun ad e => Nat.le_trans hb6s (own_new hown6 ad e))
      have HLR := Lib.hid (And.intro HX11.out.2.2.1 hb12)
      have hn4b : n4 ≤ 65536 := by have := HN4.out; rw [← hL4e, List.length_map] at this; omega
      obtain ⟨i0', hi, hz0', hz1', hz2'⟩ := info_parts hit_row
      clear hb6s hown6 hk6 hm6 hb12 hQ HNU4 v3 vl e0 e1 e2 e3 hlw11
      generalize hb12e : W12.heap.size = b12 at *
      have HB12E := Lib.hid hb12e
      clear hb12e
      go_wp2_with fail
      go_loopw [11] (fun s wr => ∃ (vb : Value) (q i0 : Nat), s = .int .i64 (i0 : Int) ∧ i0 = 2 * q ∧ i0 ≤ n4 + 1 ∧ Q3 w wr b8 b12 ⟨z0, z1, z2, z3, z4, z5, z6, z7, z8, z9, z10, L2, z12, z13 == 1, hitsOf L4, TX⟩ (.slice A5 n2 c5) vb n2 L2 q ((hitsOf L4).take q) ∧ b12 ≤ wr.heap.size ∧ Reads wr b12 1 A6 n4 (ints L4)) (fun s _ => n4 + 2 - (intOf s).toNat)
      case atStart => exact ⟨_, 0, 0, rfl, rfl, by omega, HQ.out, Nat.le_of_eq HB12E.out.symm, HRD.out _ (Below.refl _ _)⟩
      case round =>
        obtain ⟨vb, q, i0, rfl, hiq, hin, hP, hbs, hR⟩ := hrel
        obtain ⟨Ah, ch, rfl, _, _⟩ := own_shape hP.hown
        have y1 := hP.row.cell (j := 14) rfl
        have yl := hP.row.lt
        have hw1 : IntKind.i64.wrap ((i0 : Int) + 1) = (i0 : Int) + 1 := by rw [IntKind.wrap_i64]; omega
        have hw2 : IntKind.i64.wrap ((i0 : Int) + 2) = (i0 : Int) + 2 := by rw [IntKind.wrap_i64]; omega
        by_cases hlt : i0 + 1 < n4
        · have hltz : (i0 : Int) + 1 < (n4 : Int) := by omega
          have hltz0 : (i0 : Int) < (n4 : Int) := by omega
          have hnn0 : (0 : Int) ≤ (i0 : Int) + 1 := by omega
          obtain ⟨ad, rfl, hab, q1⟩ := hR.int_at (k := i0) (by omega)
          obtain ⟨ad', e', _, q2⟩ := hR.int_at (k := i0 + 1) (by omega)
          injection e' with e'
          subst e'
          have q2b : wr.cell? ⟨ad.block, ad.off + (i0 + 1), none⟩ = some (.int .i64 (L4.getD (i0 + 1) 0)) := by have h := q2; unfold Addr.add at h; rwa [if_neg (by omega)] at h
          have hal : (ad.add i0).block < wr.heap.size := by rw [block_of_add]; omega
          have hST := hits_step L4 (k := q) (by rw [HLH.out]; omega)
          rw [← hiq] at hST
          have HST := Lib.hid hST
          have HP := Lib.hid hP
          have hqb : q ≤ 65536 := by omega
          have HIQ := Lib.hid hiq
          have HRW := Lib.hid hR
          have HANE := Lib.hid (show ∀ ad', some ad = some ad' → ad'.block ≠ b8 from fun ad' e => by have h1 := HNA.out ad' e; have h2 := HX11.out.1.lt; omega)
          clear hR hP hST hiq
          generalize L4.getD i0 0 = X1 at *
          generalize L4.getD (i0 + 1) 0 = X2 at *
          go_wp2_with fail
          go_region_law (refine step_append_lies _ rfl (.tmp 113) (.tmp 124) 26 rfl b12 52 i0' _ 2 16 Tryd.underlying26 hi hz0' hz1' hz2' rfl (by decide) (.slice Ah q ch) q (hits ((hitsOf L4).take q)) rfl (by first | exact HP.out.hown.alloc _ | exact (own_drewN HP.out.hown _).alloc _) _ 1 1 _ rfl rfl (news_hit _ X1 X2) (hit_one X1 X2) (by decide) (by unfold maxLen; omega) (by omega) (by simp; omega) _ rfl ?_; intro g' cap w3' hown3 hgr3 hlies hlt3; rw [← HST.out] at hown3; have HN := Lib.hid (And.intro (HP.out.step hbs ((below_drewN (Below.refl _ wr) _).alloc (Nat.le_refl _) _) hown3 hgr3) (HP.out.belw hbs ((below_drewN (Below.refl _ wr) _).alloc (Nat.le_refl _) _) hgr3)); have z1 := HN.out.1.z1; have z2 := HN.out.1.y1; have l3 := HN.out.1.l3; have HSZ := Lib.hid (show b12 ≤ w3'.heap.size from Nat.le_trans hbs (by have := hgr3.size; simp at this; omega)); clear hown3 hgr3 hlies hlt3)
          all_goals (
            go_wp2_with fail
            exact ⟨⟨_, q + 1, i0 + 2, by go_num, by have := HIQ.out; omega, by omega, HN.out.1.next, by have := HSZ.out; simp; exact this, reads_set (HRW.out.below HN.out.2) (p := ⟨b8, 14, none⟩) HANE.out _⟩, by simp [intOf]; omega⟩)
        · have htq : (hitsOf L4).take q = hitsOf L4 := List.take_of_length_le (by rw [HLH.out]; omega)
          rw [htq] at hP
          have hltz : ¬ (i0 : Int) + 1 < (n4 : Int) := by omega
          obtain ⟨mm, hmm0⟩ : ∃ mm : M, mm = ⟨z0, z1, z2, z3, z4, z5, z6, z7, z8, z9, z10, L2, z12, z13 == 1, hitsOf L4, TX⟩ := ⟨_, rfl⟩
          have hMV : ofVals t.l TX = some mm := by
            obtain ⟨e0, e1, e2, e3, e4, e5, e6, e7⟩ := HZS.out
            obtain ⟨e8, e9, e10⟩ := HZ2.out
            obtain ⟨e12, e13⟩ := HZ3.out
            rw [ofVals_tx, HOF.out, hmm0]
            simp only [mkM, Option.map_some, HN2.out.2, hL4e, e0, e1, e2, e3, e4, e5, e6, e7, e8, e9, e10, e12, e13]
          have hvs : mm.vs = L2 := by rw [hmm0]
          have hhs : mm.hs = hitsOf L4 := by rw [hmm0]
          rw [← hmm0] at hP
          have hR1 : Reads wr wr.heap.size 1 A5 n2 (ints mm.vs) := by rw [hvs]; exact Reads.of_own hP.own
          have hR2 : Reads wr wr.heap.size 2 Ah q (hits mm.hs) := by rw [hhs]; exact Reads.of_own hP.hown
          have hn2b : n2 ≤ 70000 := by have := HN2.out.1; omega
          have hq70 : q ≤ 70000 := by omega
          have HRP := Lib.hid (rput_any (c := c5) (c' := ch) mm (HFT.out _ hMV) hR1 hR2 (Nat.le_refl _) hn2b hq70)
          have HPM := Lib.hid (HPK.out _ hMV)
          have HR := Lib.hid (show Q3 w wr b8 b12 mm (.slice A5 n2 c5) (.slice Ah q ch) n2 L2 q (hitsOf L4) ∧ Reads wr wr.heap.size 1 A5 n2 (ints mm.vs) ∧ Reads wr wr.heap.size 2 Ah q (hits mm.hs) ∧ (∀ ad, A5 = some ad → ad.block ≠ w.heap.size) ∧ (∀ ad, Ah = some ad → ad.block ≠ w.heap.size) from
            ⟨hP, hR1, hR2, fun ad e => by have := own_new hP.own ad e; have := hP.lw; omega, fun ad e => by have := own_new hP.hown ad e; have := hP.lw; have := hP.lb; omega⟩)
          clear hP hR hR1 hR2 hMV hmm0 hvs hhs htq y1 yl HQ HRD HLH HLR HX11 HXC HE2 HE4 HS2 HS4 HOF HFT HPK HZS HZ2 HZ3 HN2 HN4
          unfold msgV at HRP
          go_wp2_with (refine ld_msg HR.out.1.row rfl rfl _ rfl rfl ?_)
          refine HRP.out.mono ?_
          rintro en w7 ⟨rfl, hb7⟩
          have HK := Lib.hid (show Row w7 b8 30 (msgC mm (.slice A5 n2 c5) (.slice Ah q ch)) ∧ Row w7 w.heap.size 30 zC ∧ Below w.heap.size w w7 ∧ Reads w7 w7.heap.size 1 A5 n2 (ints mm.vs) ∧ Reads w7 w7.heap.size 2 Ah q (hits mm.hs) from
            ⟨HR.out.1.row.keep (hb7.block _ HR.out.1.row.lt), HR.out.1.rz.keep (hb7.block _ HR.out.1.rz.lt), HR.out.1.bel.trans (hb7.mono HR.out.1.bel.size), (HR.out.2.1.below hb7).more hb7.size, (HR.out.2.2.1.below hb7).more hb7.size⟩)
          clear hb7
          cases hmm : mayM mm with
          | false =>
            have HNN := Lib.hid (show takeM s = none by rw [HPM.out, if_neg (by rw [hmm]; simp)])
            rw [eM_f hmm]
            clear hmm HPM HRP
            generalize txP mm = X at *
            go_wp2_with (refine st_msg (ys := zC) HK.out.2.1 rfl rfl zC_one rfl _ _ rfl rfl rfl ?_; intro W' hr' hs' hg')
            exact bodyPost_ret (res_msg Tryd.results15 _ hr' rfl rfl rfl) rfl (tkPost_no HNN.out HK.out.2.2.1 hg')
          | true =>
            rw [eM_t hmm]
            have htx : txP mm = txtB mm := by unfold txP; rw [if_pos hmm]
            rw [htx]
            by_cases hts : txtB mm = s
            · have HNN := Lib.hid (show takeM s = some mm by rw [HPM.out, if_pos ⟨hmm, hts⟩])
              rw [hts]
              clear hmm htx hts HPM HRP
              go_wp2_with (first
                | refine ld_msg HK.out.1 rfl rfl _ rfl rfl ?_
                | (refine st_msg (ys := msgV mm A5 n2 c5 Ah q ch) HK.out.2.1 rfl rfl (msgC_one mm A5 n2 c5 Ah q ch) rfl _ _ rfl rfl rfl ?_; intro W' hr' hs' hg'))
              have hk1 := reads_grown_ne HK.out.2.2.2.1 HR.out.2.2.2.1 hg' hs'
              have hk2 := reads_grown_ne HK.out.2.2.2.2 HR.out.2.2.2.2 hg' hs'
              refine bodyPost_ret (res_msg Tryd.results15 _ hr' rfl rfl rfl) rfl ⟨HK.out.2.2.1.grown hg' HK.out.2.2.1.size (fun g e => by cases e; exact Nat.le_refl _), ?_⟩
              rw [HNN.out]
              exact ⟨A5, n2, c5, Ah, q, ch, rfl, hk1.more (Nat.le_of_eq hs'.symm), hk2.more (Nat.le_of_eq hs'.symm), hn2b, hq70⟩
            · have HNN := Lib.hid (show takeM s = none by rw [HPM.out, if_neg (fun h => hts h.2)])
              have htb : ((txtB mm).toList == s.toList) = false := by rw [Be.str_eq_dec]; exact decide_eq_false hts
              clear hmm htx hts HPM HRP
              generalize txtB mm = X at *
              go_wp2_with (refine st_msg (ys := zC) HK.out.2.1 rfl rfl zC_one rfl _ _ rfl rfl rfl ?_; intro W' hr' hs' hg')
              exact bodyPost_ret (res_msg Tryd.results15 _ hr' rfl rfl rfl) rfl (tkPost_no HNN.out HK.out.2.2.1 hg')
end Go.Proofs.YtcbkgcnajplagaaDoor.Po
