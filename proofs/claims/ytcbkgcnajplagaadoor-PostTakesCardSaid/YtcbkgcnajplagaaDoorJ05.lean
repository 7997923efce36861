/- PoRep, PoHSam, PoSame in one text. Conditions: as each part says. -/
import Derived.Test.YtcbkgcnajplagaaDoorJ02
import Derived.Test.YtcbkgcnajplagaaDoorJ03
import Derived.Laws.StructEq
section
set_option linter.unusedVariables false
set_option linter.unusedSimpArgs false
set_option maxRecDepth 100000
namespace Go.Proofs.YtcbkgcnajplagaaDoor.Po
open Go Go.RowKit
set_option maxHeartbeats 2000000 in
theorem isVec_any {w : World} {B : Nat} {A : Option Addr} {n c : Nat} {l : List Int} (hR : Reads w B 1 A n (ints l)) (hm : n ≤ maxLen) : Calls Tryd.prog 27 #[.slice A n c] w (Gives (.bool (okVs l)) w) := by
  have hln := hR.len
  have HC := Lib.hid (check_any A n c B l (n : Int) w hR hm)
  unfold maxLen at hm
  by_cases h0 : n = 0
  · have e : okVs l = true := by rw [okVs_is, decide_eq_true (by omega), Bool.true_or]
    rw [e]
    subst h0
    clear hR hln HC e
    have hz : (((0 : Nat) : Int) == 0) = true := rfl
    go_enter Tryd.func27, Tryd.ntmps27
    go_wp2_with fail
    go_ret
    exact ⟨rfl, Below.refl _ _⟩
  · have hz : ((n : Int) == 0) = false := by rw [beq_eq_false_iff_ne]; omega
    have e : ck l (n : Int) = if okVs l = true then 0 else 50 := by
      rw [hln, ck_self, okVs_is, decide_eq_false (by omega), Bool.false_or]
    rw [e] at HC
    clear hR hln e
    cases hv : okVs l with
    | true =>
      rw [hv, if_pos rfl] at HC
      clear hv
      go_enter Tryd.func27, Tryd.ntmps27
      go_wp2_with fail
      refine HC.out.mono ?_
      rintro en w1 ⟨rfl, q, rfl⟩
      go_wp2_with fail
      go_ret
      exact ⟨rfl, below_drewN (Below.refl _ _) _⟩
    | false =>
      rw [hv, if_neg (by simp)] at HC
      clear hv
      go_enter Tryd.func27, Tryd.ntmps27
      go_wp2_with fail
      refine HC.out.mono ?_
      rintro en w1 ⟨rfl, q, rfl⟩
      go_wp2_with fail
      go_ret
      exact ⟨rfl, below_drewN (Below.refl _ _) _⟩
def repF (c : Nat) : Value := .func (.func 49) #[] #[.pointer (some ⟨c, 0, none⟩)]
def farL : List Value := [.int .i64 0, .int .i64 1099511627776]
theorem w40_is (n : Int) : decide (0 ≤ n ∧ n ≤ 1099511627776) = decide (W40 n) := decide_eq_decide.2 Iff.rfl
set_option maxHeartbeats 2000000 in
theorem rclo_any (c : Nat) (a d : Int) (w : World) (hF : Row w c 61 farL) : Calls Tryd.prog 49 #[.agg #[.int .i64 a, .int .i64 d], .pointer (some ⟨c, 0, none⟩)] w (Gives (.bool (!decide (W40 d))) w) := by
  have hb : Below w.heap.size w (w.alloc (.cells #[.int .i64 a, .int .i64 d] 52)) := (Below.refl _ w).alloc (Nat.le_refl _) _
  have c0 := hF.cell (j := 0) rfl
  have c1 := hF.cell (j := 1) rfl
  have lc := hF.lt
  have HH := Lib.hid (has_any 0 1099511627776 d (w.alloc (.cells #[.int .i64 a, .int .i64 d] 52)))
  rw [w40_is] at HH
  have HB := Lib.hid hb
  clear hF hb
  go_enter Tryd.func49, Tryd.ntmps49
  go_wp2_with fail
  refine HH.out.mono ?_
  rintro en w1 ⟨rfl, hb1⟩
  go_wp2_with fail
  go_ret
  exact ⟨rfl, HB.out.trans (hb1.mono HB.out.size)⟩
def allW (l : List (Int × Int)) : Bool := l.all fun x => decide (W40 x.2)
theorem allW_no {l : List (Int × Int)} {k : Nat} (hk : k < l.length) (h : decide (W40 (l.getD k (0, 0)).2) = false) : allW l = false := by
  rw [Bool.eq_false_iff]
  intro ha
  have h2 := List.all_eq_true.1 ha (l.getD k (0, 0)) (by rw [List.getD_eq_getElem?_getD, List.getElem?_eq_getElem hk]; exact List.getElem_mem hk)
  rw [h] at h2
  cases h2
theorem allW_yes {l : List (Int × Int)} (h : ∀ j, j < l.length → decide (W40 (l.getD j (0, 0)).2) = true) : allW l = true := by
  unfold allW
  rw [List.all_eq_true]
  intro x hx
  obtain ⟨j, hj, rfl⟩ := List.getElem_of_mem hx
  have := h j hj
  rw [List.getD_eq_getElem?_getD, List.getElem?_eq_getElem hj] at this
  exact this
theorem okHs_all (l : List (Int × Int)) : okHs l = (decide (l.length ≤ 64) && allW l) := rfl
def IdxPost (l : List (Int × Int)) (w : World) (e : Ending) (w' : World) : Prop := ∃ z : Int, e = .returned (.int .i64 z) ∧ decide (0 ≤ z) = !allW l ∧ Below w.heap.size w w'
set_option maxHeartbeats 4000000 in
theorem idx_any {w : World} {B : Nat} {A : Option Addr} {n cap : Nat} {l : List (Int × Int)} (c : Nat) (hR : Reads w B 2 A n (hits l)) (hB : B ≤ w.heap.size) (hF : Row w c 61 farL) (hm : n ≤ maxLen) :
    Calls Tryd.prog 64 #[.slice A n cap, .func (.func 49) #[] #[.pointer (some ⟨c, 0, none⟩)]] w (IdxPost l w) := by
  have hln := hR.hits_len
  unfold maxLen at hm
  have KR := Lib.hid (fun w1 (hb : Below w.heap.size w w1) => show Reads w1 B 2 A n (hits l) ∧ Row w1 c 61 farL ∧ B ≤ w1.heap.size from ⟨hR.below (hb.mono hB), hF.keep (hb.block _ hF.lt), Nat.le_trans hB hb.size⟩)
  have HL := Lib.hid hln
  clear hR hF hln hB
  go_enter Tryd.func64, Tryd.ntmps64
  go_wp2_with fail
  go_loopw [8] (fun i wr => ∃ k : Nat, k ≤ n ∧ i = .int .i64 (k : Int) ∧ Below w.heap.size w wr ∧ Hid (∀ j, j < k → decide (W40 (l.getD j (0, 0)).2) = true)) (fun i _ => n - (intOf i).toNat)
  case atStart => exact ⟨0, Nat.zero_le _, rfl, Below.refl _ _, Lib.hid (fun j hj => absurd hj (by omega))⟩
  case round =>
    obtain ⟨k, hk, rfl, hb, HJ⟩ := hrel
    obtain ⟨hRr, hFr, hBr⟩ := KR.out wr hb
    by_cases hlt : k < n
    · obtain ⟨ad, rfl, hab, hkl, hc0, hc⟩ := hRr.hit_at hlt
      have hltz : (k : Int) < (n : Int) := by omega
      have hdl : (ad.add (k * 2)).block < wr.heap.size := by rw [block_of_add]; omega
      have HF := Lib.hid (fun h => allW_no hkl h)
      have HS := Lib.hid (show decide (W40 (l.getD k (0, 0)).2) = true → ∀ j, j < k + 1 → decide (W40 (l.getD j (0, 0)).2) = true from fun h j hj => by
        rcases Nat.lt_or_ge j k with h1 | h1
        · exact HJ.out j h1
        · obtain rfl : j = k := by omega
          exact h)
      have HC := Lib.hid (rclo_any c (l.getD k (0, 0)).1 (l.getD k (0, 0)).2 wr hFr)
      have HB := Lib.hid hb
      clear hRr hFr hBr hb
      generalize (l.getD k (0, 0)).1 = X1 at *
      generalize (l.getD k (0, 0)).2 = X2 at *
      cases hd : decide (W40 X2) with
      | true =>
        rw [hd] at HC
        have HS2 := Lib.hid (HS.out hd)
        clear hd
        go_wp2_with fail
        go_at_call 49
        refine HC.out.mono ?_
        rintro en w1 ⟨rfl, hb1⟩
        go_wp2_with fail
        exact ⟨⟨k + 1, hlt, by go_num, below_then HB.out hb1, HS2⟩, by simp [intOf]; omega⟩
      | false =>
        rw [hd] at HC
        have HF2 := Lib.hid (HF.out hd)
        clear hd
        go_wp2_with fail
        go_at_call 49
        refine HC.out.mono ?_
        rintro en w1 ⟨rfl, hb1⟩
        go_wp2_with fail
        go_ret
        exact ⟨(k : Int), rfl, by rw [HF2.out]; simp, below_then HB.out hb1⟩
    · obtain rfl : k = n := by omega
      have hnl : ¬ (k : Int) < (k : Int) := by omega
      have HF2 := Lib.hid (allW_yes (l := l) (fun j hj => HJ.out j (by rw [HL.out]; exact hj)))
      clear hRr hFr
      go_wp2_with fail
      go_ret
      exact ⟨-1, rfl, by rw [HF2.out]; rfl, hb⟩
set_option maxHeartbeats 2000000 in
theorem contains_any {w : World} {B : Nat} {A : Option Addr} {n cap : Nat} {l : List (Int × Int)} (c : Nat) (hR : Reads w B 2 A n (hits l)) (hB : B ≤ w.heap.size) (hF : Row w c 61 farL) (hm : n ≤ maxLen) :
    Calls Tryd.prog 48 #[.slice A n cap, .func (.func 49) #[] #[.pointer (some ⟨c, 0, none⟩)]] w (Gives (.bool (!allW l)) w) := by
  have HI := Lib.hid (idx_any (cap := cap) c hR hB hF hm)
  clear hR hF
  go_enter Tryd.func48, Tryd.ntmps48
  go_wp2_with fail
  refine HI.out.mono ?_
  intro en w1 hpost
  unfold IdxPost at hpost
  obtain ⟨z, rfl, hz, hb1⟩ := hpost
  have HZ := Lib.hid hz
  clear hz
  go_wp2_with fail
  go_ret
  exact ⟨ret_bool HZ.out, hb1⟩
end Go.Proofs.YtcbkgcnajplagaaDoor.Po
end
section
set_option linter.unusedVariables false
set_option linter.unusedSimpArgs false
namespace Go.Proofs.YtcbkgcnajplagaaDoor
open Go Go.RowKit
theorem neq_hit (x y : Hit) (w : World) : (binOp .neq 52 (.agg #[.int .i64 x.1, .int .i64 x.2]) (.agg #[.int .i64 y.1, .int .i64 y.2])).run Tryd.prog w = .ok (.bool (decide (x ≠ y))) w := by
  have u3 := Tryd.underlying3
  have a3 := Tryd.isAgg3
  have z3 := Tryd.sizeOf3
  have hS : Tryd.prog.underlying 52 = some (.struct (Tryd.prog.fieldsOf 52)) := by kernel_rfl
  have hp : Tryd.prog.stoodInHeld 52 = false := by kernel_rfl
  rw [run_neq_struct, show (10000 : Nat) = 9999 + 1 from rfl, run_equalIn_agg w 9999 52 _ _ hS hp]
  simp only [Program.fieldsOf, Tryd.underlying52]
  go_simp
  by_cases h1 : x.fst = y.fst <;> by_cases h2 : x.snd = y.snd <;> simp [h1, h2, Prod.ext_iff]
theorem guard37 : Tryd.prog.eqGuardType Tryd.prog.depth 52 = false := by kernel_rfl
theorem take_hit (l : List Hit) (k : Nat) (hk : k < l.length) : l.take (k + 1) = l.take k ++ [l.getD k (0, 0)] := by
  rw [List.take_succ_eq_append_getElem hk, List.getD_eq_getElem?_getD, List.getElem?_eq_getElem hk]
  rfl
theorem take_next_hit {x y : List Hit} {k : Nat} (h : x.take k = y.take k) (hx : k < x.length) (hy : k < y.length) (e : x.getD k (0, 0) = y.getD k (0, 0)) : x.take (k + 1) = y.take (k + 1) := by
  rw [take_hit x k hx, take_hit y k hy, h, e]
def SaysH (v : Value) (w : World) (e : Ending) (w' : World) : Prop := e = .returned v ∧ ∃ q, w' = w.drewN q
set_option maxHeartbeats 2000000 in
theorem same_any (A A' : Option Addr) (n m c c' B B' : Nat) (x y : List Hit) (w : World) (hx : Reads w B 2 A n (hits x)) (hy : Reads w B' 2 A' m (hits y)) (hm : n ≤ maxLen) (hm' : m ≤ maxLen) :
    Calls Tryd.prog 31 #[.slice A n c, .slice A' m c'] w (SaysH (.bool (decide (x = y))) w) := by
  have lx := hx.hits_len
  have ly := hy.hits_len
  unfold maxLen at hm hm'
  have hg := guard37
  by_cases hnm : n = m
  · subst hnm
    have LX := Lib.hid lx
    have LY := Lib.hid ly
    have lx' : x.length ≤ n := by omega
    have ly' : y.length ≤ n := by omega
    clear lx ly
    go_enter Tryd.func31, Tryd.ntmps31
    go_wp2_with fail
    go_loopw [5] (fun i wr => ∃ k q : Nat, k ≤ n ∧ i = .int .i64 k ∧ wr = w.drewN q ∧ Hid (x.take k = y.take k)) (fun i _ => n - (intOf i).toNat)
    case atStart => exact ⟨0, 0, Nat.zero_le _, rfl, rfl, Lib.hid rfl⟩
    case round =>
      obtain ⟨k, q, hk, rfl, rfl, HT⟩ := hrel
      by_cases hlt' : k < n
      · obtain ⟨ad, rfl, _, hkx, c0, c1⟩ := hx.hit_at hlt'
        obtain ⟨ad', rfl, _, hky, d0, d1⟩ := hy.hit_at hlt'
        have hltz : (k : Int) < (n : Int) := by omega
        have HN := Lib.hid (take_next_hit HT.out hkx hky)
        have HX := Lib.hid (show x.getD k (0, 0) ≠ y.getD k (0, 0) → x ≠ y from fun h e => h (by rw [e]))
        have hneq := neq_hit (x.getD k (0, 0)) (y.getD k (0, 0))
        generalize x.getD k (0, 0) = X at *
        generalize y.getD k (0, 0) = Y at *
        by_cases hXY : X = Y
        · have HN2 := Lib.hid (HN.out hXY)
          have e : decide (X ≠ Y) = false := decide_eq_false (by simp [hXY])
          simp only [e] at hneq
          clear hXY e
          go_wp2_with fail
          go_quiet (fail)
          go_wp2_with fail
          go_roundw
          case rel => exact ⟨k + 1, _, by omega, by go_num, rfl, HN2⟩
          case measure => simp [intOf]; omega
        · have hne : decide (x = y) = false := decide_eq_false (HX.out hXY)
          have HNE := Lib.hid hne
          have e : decide (X ≠ Y) = true := decide_eq_true hXY
          simp only [e] at hneq
          clear hXY e hne
          go_wp2_with fail
          go_quiet (fail)
          go_wp2_with fail
          go_ret
          exact ⟨ret_bool HNE.out.symm, _, World.drewN_drewN ..⟩
      · have e : x = y := by
          have := HT.out
          rwa [List.take_of_length_le (by omega), List.take_of_length_le (by omega)] at this
        have HE := Lib.hid (decide_eq_true e)
        clear e
        go_wp2_with fail
        go_ret
        exact ⟨ret_bool HE.out.symm, _, rfl⟩
  · have hne : decide (x = y) = false := decide_eq_false (by rintro rfl; omega)
    have hb : ((n : Int) != (m : Int)) = true := by rw [bne_iff_ne]; omega
    rw [hne]
    clear lx ly
    go_enter Tryd.func31, Tryd.ntmps31
    go_wp2_with fail
    go_ret
    exact ⟨rfl, 0, rfl⟩
end Go.Proofs.YtcbkgcnajplagaaDoor
end
section
set_option linter.unusedVariables false
set_option linter.unusedSimpArgs false
set_option maxRecDepth 100000
namespace Go.Proofs.YtcbkgcnajplagaaDoor.Po
open Go Go.RowKit
def opOf (m : M) : Int × Int × Int × List Int := (m.ok, m.oi, m.kk, m.vs)
def opV (m : M) (A : Option Addr) (n c : Nat) : List Value := [.int .i64 m.ok, .int .i64 m.oi, .slice A n c, .int .i64 m.kk]
theorem op_no {m m' : M} (h : ¬ (m.ok = m'.ok ∧ m.oi = m'.oi ∧ m.kk = m'.kk ∧ m.vs = m'.vs)) : decide (opOf m = opOf m') = false := decide_eq_false (fun e => h (by simpa [opOf] using e))
theorem op_yes {m m' : M} (h1 : m.ok = m'.ok) (h2 : m.oi = m'.oi) (h3 : m.kk = m'.kk) : decide (m.vs = m'.vs) = decide (opOf m = opOf m') := by
  rw [decide_eq_decide]
  simp [opOf, h1, h2, h3]
set_option maxHeartbeats 8000000 in
theorem rsameop_any (m m' : M) {w : World} {B : Nat} {A A' : Option Addr} {n c n' c' : Nat} (hR : Reads w B 1 A n (ints m.vs)) (hR' : Reads w B 1 A' n' (ints m'.vs)) (hB : B ≤ w.heap.size) (hm : n ≤ maxLen) (hm' : n' ≤ maxLen) :
    Calls Tryd.prog 30 #[.agg (opV m A n c).toArray, .agg (opV m' A' n' c').toArray] w (Gives (.bool (decide (opOf m = opOf m'))) w) := by
  obtain ⟨W, hW⟩ : ∃ W, W = (w.alloc (.cells (opV m A n c).toArray 24)).alloc (.cells (opV m' A' n' c').toArray 24) := ⟨_, rfl⟩
  have hb0 : Below w.heap.size w W := by rw [hW]; exact ((Below.refl _ w).alloc (Nat.le_refl _) _).alloc (by simp) _
  have r1 : Row W w.heap.size 24 (opV m A n c) := by rw [hW]; exact (Row.new w 24 (opV m A n c)).keep (by rw [World.alloc]; simp [Array.getElem?_push])
  have r2 : Row W (w.heap.size + 1) 24 (opV m' A' n' c') := by
    rw [hW]
    have := Row.new (w.alloc (.cells (opV m A n c).toArray 24)) 24 (opV m' A' n' c')
    rwa [World.size_alloc] at this
  have HC := Lib.hid (sameInts_any A A' n n' c c' B B m.vs m'.vs W (hR.below (hb0.mono hB)) (hR'.below (hb0.mono hB)) hm hm')
  have HB := Lib.hid hb0
  have HW := Lib.hid hW

  have c0 := r1.cell (j := 0) rfl
  have d0 := r2.cell (j := 0) rfl
  have c1 := r1.cell (j := 1) rfl
  have d1 := r2.cell (j := 1) rfl
  have c2 := r1.cell (j := 2) rfl
  have d2 := r2.cell (j := 2) rfl
  have c3 := r1.cell (j := 3) rfl
  have d3 := r2.cell (j := 3) rfl
  have l1 := r1.lt
  have l2 := r2.lt
  clear r1 r2 hb0 hW hR hR' hB hm hm'
  unfold opV at *
  by_cases p0 : m.ok = m'.ok
  rotate_left
  · have HN := Lib.hid (op_no (m := m) (m' := m') (fun h => p0 h.1))
    go_enter Tryd.func30, Tryd.ntmps30
    go_wp2_with fail
    go_ret
    exact ⟨ret_bool HN.out.symm, by rw [← HW.out]; exact HB.out⟩
  by_cases p1 : m.oi = m'.oi
  rotate_left
  · have HN := Lib.hid (op_no (m := m) (m' := m') (fun h => p1 h.2.1))
    go_enter Tryd.func30, Tryd.ntmps30
    go_wp2_with fail
    go_ret
    exact ⟨ret_bool HN.out.symm, by have hw := HW.out; rw [p0] at hw; rw [← hw]; exact HB.out⟩
  by_cases p2 : m.kk = m'.kk
  rotate_left
  · have HN := Lib.hid (op_no (m := m) (m' := m') (fun h => p2 h.2.2.1))
    go_enter Tryd.func30, Tryd.ntmps30
    go_wp2_with fail
    go_ret
    exact ⟨ret_bool HN.out.symm, by have hw := HW.out; rw [p0, p1] at hw; rw [← hw]; exact HB.out⟩
  have HY := Lib.hid (op_yes p0 p1 p2)
  have hw := HW.out
  rw [p0, p1, p2] at hw
  have HW2 := Lib.hid hw
  clear hw
  go_enter Tryd.func30, Tryd.ntmps30
  go_wp2_with fail
  rw [← HW2.out]
  refine HC.out.mono ?_
  rintro en w1 ⟨rfl, q, rfl⟩
  go_wp2_with fail
  go_ret
  exact ⟨ret_bool HY.out, below_drewN HB.out _⟩
end Go.Proofs.YtcbkgcnajplagaaDoor.Po
end
