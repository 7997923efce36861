/- DedupOnce: its walk. Conditions: the pairs read as they came; Go's table of powers of ten lies below. -/
import Derived.Test.YtbijaipoifpngaaDoorDAwk
import Derived.BigQuiet
import Derived.Deep.QuietTactic
import Derived.Deep.OwnRows
set_option linter.unusedVariables false
set_option linter.unusedSimpArgs false
set_option maxRecDepth 100000
namespace Go.Proofs.YtbijaipoifpngaaDoor.Be
open Go Go.RowKit
/-- A slice of pairs of numbers, as it came in. -/
def PairsAt (w : World) (B : Nat) (A : Option Addr) (n : Nat) : Prop := ∀ i, i < n → ∃ ad x y, A = some ad ∧ ad.block < B ∧ w.cell? (ad.add (i * 2)) = some (.int .i64 x) ∧ w.cell? ⟨(ad.add (i * 2)).block, (ad.add (i * 2)).off + 1, none⟩ = some (.int .i64 y)
theorem PairsAt.at_ {w w' : World} {B n : Nat} {A : Option Addr} (h : PairsAt w B A n) (hb : Below B w w') : PairsAt w' B A n := fun i hi => by
  obtain ⟨ad, x, y, h1, h2, h3, h4⟩ := h i hi
  exact ⟨ad, x, y, h1, h2, (hb.cell (by rw [block_of_add]; exact h2)).trans h3, (hb.cell (p := ⟨(ad.add (i * 2)).block, (ad.add (i * 2)).off + 1, none⟩) (by show (ad.add (i * 2)).block < B; rw [block_of_add]; exact h2)).trans h4⟩
theorem i64_and7 (n : Int) : bits .and .i64 n 7 = n % 8 := by
  have hm : (BitVec.ofInt 64 7).toNat = 2 ^ 3 - 1 := by decide
  have key : (BitVec.ofInt 64 n &&& BitVec.ofInt 64 7).toNat = (n % ((2 ^ 64 : Nat) : Int)).toNat % 2 ^ 3 := by
    rw [BitVec.toNat_and, BitVec.toNat_ofInt, hm, Nat.and_two_pow_sub_one_eq_mod]
  show IntKind.i64.wrap ((BitVec.ofInt 64 n &&& BitVec.ofInt 64 7).toNat : Nat) = n % 8
  rw [key, IntKind.wrap_i64]
  omega
theorem i64_and255 (n : Int) : bits .and .i64 n 255 = n % 256 := by
  have hm : (BitVec.ofInt 64 255).toNat = 2 ^ 8 - 1 := by decide
  have key : (BitVec.ofInt 64 n &&& BitVec.ofInt 64 255).toNat = (n % ((2 ^ 64 : Nat) : Int)).toNat % 2 ^ 8 := by
    rw [BitVec.toNat_and, BitVec.toNat_ofInt, hm, Nat.and_two_pow_sub_one_eq_mod]
  show IntKind.i64.wrap ((BitVec.ofInt 64 n &&& BitVec.ofInt 64 255).toNat : Nat) = n % 256
  rw [key, IntKind.wrap_i64]
  omega
def lastC (q : List E) : List Value := q.map fun x => .int .i64 x.s
/-- The state between two rounds: the table, and what each client did last. -/
structure OSt (w wr : World) (p L : Nat) (q : List E) : Prop where
  tab : TabAt wr p q
  last : Row wr L 3 (lastC q)
  bel : Below w.heap.size w wr
  pw : w.heap.size ≤ p
  lw : w.heap.size ≤ L
  ne : p ≠ L
  odd : ∀ x ∈ q, x.s ≤ 256 ∧ (0 < x.s → x.b = decide (x.s % 2 = 1))
theorem make8 (w : World) : (Instr.makeSlice 51 (.int .i64 8) (.int .i64 8)).run Tryd.prog w = .ok (.slice (some ⟨w.heap.size, 0, none⟩) 8 8) (w.alloc (.cells (madeCells #[.int .i64 0] 8) 3)) :=
  run_make_row' (P := Tryd.prog) 51 3 (.int .i64 0) 8 Tryd.underlying51 (by kernel_rfl) rfl .i64 .i64 8 (by omega) (by omega) w
theorem lastC_at {q : List E} {k : Nat} (hk : k < q.length) : (lastC q)[k]? = some (.int .i64 q[k]!.s) := by
  unfold lastC
  rw [List.getElem?_map, List.getElem?_eq_getElem hk, List.getElem!_eq_getElem?_getD, List.getElem?_eq_getElem hk]
  rfl
theorem lastC_set (q : List E) (k : Nat) (x : E) : lastC (q.set k x) = (lastC q).set k (.int .i64 x.s) := by simp [lastC, List.map_set]
def ODD (x : E) : Prop := x.s ≤ 256 ∧ (0 < x.s → x.b = decide (x.s % 2 = 1))
theorem putM_k (q : List E) {k : Nat} {m e : Int} (b : Bool) (hk : k < 8) (h1 : 1 ≤ m) (h2 : m ≤ 1099511627776) (h3 : 0 ≤ e) (h4 : e ≤ 255) : putM q (k : Int) m e b = if m ≤ q[k]!.s then (q, 90) else (q.set k ⟨m, e, b⟩, 0) := by
  unfold putM
  rw [if_pos (by simp only [mayB, cliB, seqB, errB, Bool.and_eq_true, decide_eq_true_eq]; exact ⟨⟨⟨by omega, by omega⟩, h1, h2⟩, h3, h4⟩)]
  rfl
theorem lastM_k (q : List E) {k : Nat} (hk : k < 8) : lastM q (k : Int) = q[k]!.s := by
  unfold lastM
  rw [if_pos (by simp only [cliB, decide_eq_true_eq]; omega)]
  rfl
theorem findM_k (q : List E) {k : Nat} (hk : k < 8) (h1 : 1 ≤ q[k]!.s) (h2 : q[k]!.s ≤ 1099511627776) : findM q (k : Int) q[k]!.s = ((q[k]!.e, q[k]!.b), 0) := by
  unfold findM
  rw [if_pos (by simp only [mayB, cliB, seqB, Bool.and_eq_true, decide_eq_true_eq]; exact ⟨⟨by omega, by omega⟩, h1, h2⟩)]
  simp
theorem mem_at {q : List E} {P : E → Prop} (h : ∀ x ∈ q, P x) {k : Nat} (hk : k < q.length) : P q[k]! := by
  rw [List.getElem!_eq_getElem?_getD, List.getElem?_eq_getElem hk]
  exact h _ (List.getElem_mem _)
theorem set_same (q : List E) {k : Nat} (hk : k < q.length) : (lastC q).set k (.int .i64 q[k]!.s) = lastC q := by
  rw [← lastC_set, List.getElem!_eq_getElem?_getD, List.getElem?_eq_getElem hk]
  simp
theorem OSt.on {w wr w2 : World} {p L : Nat} {q : List E} (h : OSt w wr p L q) (hb : Below wr.heap.size wr w2) : OSt w w2 p L q := ⟨h.tab.on hb, h.last.on hb, h.bel.trans (hb.mono h.bel.size), h.pw, h.lw, h.ne, h.odd⟩
set_option maxHeartbeats 8000000 in
theorem dedupOnce_walk (A : Option Addr) (n c : Nat) (w : World) (hA : PairsAt w w.heap.size A n) (hn : n ≤ maxLen) (hT : Tabs w w.heap.size) : Calls Tryd.prog 5 #[.slice A n c] w (Gives (.bool true) w) := by
  have hnew := new_any w
  go_enter Tryd.func5, Tryd.ntmps5
  go_wp2_with fail
  refine hnew.mono ?_
  rintro e w1 ⟨p, rfl, ht1, hp1, hb1⟩
  clear hnew
  have hmk := make8 w1
  obtain ⟨L, hL⟩ : ∃ L, w1.heap.size = L := ⟨_, rfl⟩
  have h0 : OSt w (w1.alloc (.cells (madeCells #[.int .i64 0] 8) 3)) p L q0 := by
    refine ⟨ht1.al _, ?_, hb1.alloc hb1.size _, hp1, by rw [← hL]; exact hb1.size, by rw [← hL]; exact Nat.ne_of_lt ht1.row.lt, fun x hx => ?_⟩
    · rw [← hL]
      have := Row.new w1 3 (lastC q0)
      rw [show (lastC q0).toArray = madeCells #[.int .i64 0] 8 from by kernel_rfl] at this
      exact this
    · have : x = e0 := by simpa [q0] using hx
      subst this
      exact ⟨by decide, fun h => absurd h (by decide)⟩
  rw [hL] at hmk
  have hLL := Lib.hid hL
  clear hL ht1 hb1
  have hmax : (n : Int) ≤ 9223372036854775807 := by unfold maxLen at hn; omega
  go_wp2_with fail
  generalize w1.alloc (.cells (madeCells #[.int .i64 0] 8) 3) = W0 at *
  go_loopw [5] (fun vi wr => ∃ (i : Nat) (q : List E), vi = .int .i64 (i : Int) ∧ i ≤ 200 ∧ OSt w wr p L q) (fun vi _ => 201 - (intOf vi).toNat)
  case atStart => exact ⟨0, q0, rfl, by omega, h0⟩
  case round =>
    obtain ⟨i, q, rfl, hi, hS⟩ := hrel
    have haw := awake_any w.heap.size wr (hT.on hS.bel) hS.bel.size
    by_cases hlt : i < n ∧ i < 200
    · obtain ⟨h1, h2⟩ := hlt
      have h1z : (i : Int) < (n : Int) := by omega
      have h2z : (i : Int) < 200 := by omega
      obtain ⟨ad, x, y, rfl, hbl, cx, cy⟩ := hA.at_ hS.bel i h1
      have a7 := i64_and7 x
      have a255 := i64_and255 y
      obtain ⟨k, hk, hk8⟩ : ∃ k : Nat, x % 8 = (k : Int) ∧ k < 8 := ⟨(x % 8).toNat, by omega, by omega⟩
      obtain ⟨m, hm, hm1, hm2⟩ : ∃ m : Nat, IntKind.i64.wrap (1 + y % 256) = (m : Int) ∧ 1 ≤ m ∧ m ≤ 256 := ⟨(1 + y % 256).toNat, by rw [IntKind.wrap_i64]; omega, by omega, by omega⟩
      rw [hk] at a7
      generalize y % 256 = y1 at *
      clear haw hk
      have HS := Lib.hid hS
      clear hS
      obtain ⟨wo, hwo⟩ : ∃ wo, wo = wr := ⟨_, rfl⟩
      subst hwo
      go_wp2_with fail
      go_quiet (fail)
      have hput := put_any (HS.out.tab.keep (w' := wo.drewN nq) rfl) k m 0 ((m : Int) % 2 == 1) (.slice none 0 0)
      have hq8 := HS.out.tab.ok.len
      rw [putM_k q _ hk8 (by omega) (by omega) (by omega) (by omega)] at hput
      obtain ⟨bm, hbm0⟩ : ∃ bm : Bool, ((m : Int) % 2 == 1) = bm := ⟨_, rfl⟩
      have hbm1 : decide ((m : Int) % 2 = 1) = bm := by rw [← hbm0]; rfl
      rw [hbm0] at hput
      have HB0 := Lib.hid hbm0
      have HB1 := Lib.hid hbm1
      have hbm := hbm1.symm
      have HBM := Lib.hid hbm
      clear hbm0 hbm1 hbm
      go_wp2_with fail
      first | rw [HB0.out] | rw [HB1.out]
      clear cx cy
      by_cases hc : (m : Int) ≤ q[k]!.s
      · rw [if_pos hc] at hput
        refine hput.mono ?_
        rintro e w2 ⟨rfl, ht2, hg2⟩
        have hlw : L < wo.heap.size := HS.out.last.lt
        have hRL : Row w2 L 3 (lastC q) := HS.out.last.keep (grown_keep (w := wo.drewN nq) hg2 hlw (Ne.symm HS.out.ne))
        have hfz : w2.frozen? ⟨L, k, none⟩ = false := hRL.frozen k
        have cL : w2.cell? ⟨L, k, none⟩ = some (.int .i64 q[k]!.s) := hRL.cell (lastC_at (by omega))
        have hS3 : OSt w (w2.setCell ⟨L, k, none⟩ (.int .i64 q[k]!.s)) p L q := by
          refine ⟨ht2.keep (heap_set_ne _ _ _ HS.out.ne), ?_, ?_, HS.out.pw, HS.out.lw, HS.out.ne, ?_⟩
          · have h3 := hRL.set k (.int .i64 q[k]!.s)
            rw [set_same q (by omega)] at h3
            exact h3
          · exact ((below_drewN HS.out.bel nq).grown hg2 HS.out.bel.size (fun g hg => by injection hg with hg; subst hg; exact HS.out.pw)).setCell HS.out.lw _
          · exact HS.out.odd
        have hq8' := hS3.tab.ok.len
        have H3 := Lib.hid hS3
        clear hput ht2 hRL hS3
        generalize hs0 : q[k]!.s = s0 at *
        have HS0 := Lib.hid hs0
        clear hs0
        have hmax2 : max s0 (m : Int) = s0 := by omega
        go_wp2_with fail
        generalize hW3 : w2.setCell ⟨L, k, none⟩ (.int .i64 s0) = W3 at *
        have HW3 := Lib.hid hW3
        clear hW3
        generalize q = q1 at *
        go_loopw [9] (fun vj wr => ∃ j : Nat, vj = .int .i64 (j : Int) ∧ j ≤ 8 ∧ OSt w wr p L q1) (fun vj _ => 9 - (intOf vj).toNat)
        case atStart => exact ⟨0, rfl, by omega, H3.out⟩
        case round =>
          obtain ⟨j, rfl, hj, hSj⟩ := hrel
          by_cases hj8 : j < 8
          · have hjz : (j : Int) < 8 := by omega
            have hla := fun w' (h : TabAt w' p q1) => last_any h j
            have hod := mem_at hSj.odd (k := j) (by omega)
            have hgd := hSj.tab.ok.at_ hj8
            have cj : wr.cell? ⟨L, j, none⟩ = some (.int .i64 q1[j]!.s) := hSj.last.cell (lastC_at (by omega))
            rw [lastM_k q1 hj8] at hla
            have hfk := findM_k q1 (k := j) hj8
            generalize hxq : q1[j]! = xq at *
            have HXQ := Lib.hid hxq
            clear hxq
            obtain ⟨sx, ex, bx⟩ := xq
            simp only at hod hgd cj hla hfk
            have HK := Lib.hid (fun n : Nat => (hla (wr.drewN n) (hSj.tab.keep rfl)).mono (fun _ _ h => And.intro h.1 h.2.symm))
            have HSj := Lib.hid hSj
            have HF := Lib.hid hfk
            have HG := Lib.hid hgd
            have HO := Lib.hid hod
            clear hla hSj hfk hgd hod
            go_wp2_with fail
            go_quiet ((go_at_call 14; exact Calls.quiet_of_same (HK.out _)))
            by_cases hsx : 0 < sx
            · have hfi := find_any (HSj.out.tab.keep (w' := wr.drewN nq) rfl) j sx
              rw [HF.out (by omega) (by have := HG.out.1; simp only at this; omega)] at hfi
              simp only [repV] at hfi
              go_wp2_with fail
              refine hfi.mono ?_
              rintro e w5 ⟨rfl, hb5⟩
              have hS5 : OSt w (w5.alloc (.cells #[.int .i64 ex, .bool bx, .slice none 0 0] 32)) p L q1 := (HSj.out.on (below_then (below_drewN (Below.refl _ wr) nq) hb5)).on ((Below.refl _ _).alloc (Nat.le_refl _) _)
              have cj5 : (w5.alloc (.cells #[.int .i64 ex, .bool bx, .slice none 0 0] 32)).cell? ⟨L, j, none⟩ = some (.int .i64 sx) := by
                have := hS5.last.cell (lastC_at (q := q1) (k := j) (by omega))
                rw [HXQ.out] at this
                exact this
              have HS5 := Lib.hid hS5
              have hbx1 : decide (sx % 2 = 1) = bx := (HO.out.2 hsx).symm
              have hbx0 : (sx % 2 == 1) = bx := hbx1
              clear hfi hS5
              go_wp2_with fail
              go_quiet (fail)
              go_wp2_with fail
              exact ⟨⟨j + 1, by go_num, by omega, HS5.out.on (below_drewN (Below.refl _ _) nq)⟩, by simp [intOf]; omega⟩
            · go_wp2_with fail
              exact ⟨⟨j + 1, by go_num, by omega, HSj.out.on (below_drewN (Below.refl _ wr) nq)⟩, by simp [intOf]; omega⟩
          · obtain rfl : j = 8 := by omega
            have h200 : i + 1 ≤ 200 := by omega
            go_wp2_with fail
            exact ⟨⟨i + 1, q1, by go_num, h200, hSj⟩, by simp [intOf]; omega⟩
      · rw [if_neg hc] at hput
        refine hput.mono ?_
        rintro e w2 ⟨rfl, ht2, hg2⟩
        have hlw : L < wo.heap.size := HS.out.last.lt
        have hRL : Row w2 L 3 (lastC q) := HS.out.last.keep (grown_keep (w := wo.drewN nq) hg2 hlw (Ne.symm HS.out.ne))
        have hfz : w2.frozen? ⟨L, k, none⟩ = false := hRL.frozen k
        have cL : w2.cell? ⟨L, k, none⟩ = some (.int .i64 q[k]!.s) := hRL.cell (lastC_at (by omega))
        have hS3 : OSt w (w2.setCell ⟨L, k, none⟩ (.int .i64 (m : Int))) p L (q.set k ⟨m, 0, bm⟩) := by
          refine ⟨ht2.keep (heap_set_ne _ _ _ HS.out.ne), ?_, ?_, HS.out.pw, HS.out.lw, HS.out.ne, ?_⟩
          · have h3 := hRL.set k (.int .i64 (m : Int))
            rw [← lastC_set q k ⟨m, 0, bm⟩] at h3
            exact h3
          · exact ((below_drewN HS.out.bel nq).grown hg2 HS.out.bel.size (fun g hg => by injection hg with hg; subst hg; exact HS.out.pw)).setCell HS.out.lw _
          · intro x hx
            rcases List.mem_or_eq_of_mem_set hx with hx | rfl
            · exact HS.out.odd x hx
            · exact ⟨by show (m : Int) ≤ 256; omega, fun _ => HBM.out⟩
        have hq8' := hS3.tab.ok.len
        have H3 := Lib.hid hS3
        clear hput ht2 hRL hS3
        generalize hs0 : q[k]!.s = s0 at *
        have HS0 := Lib.hid hs0
        clear hs0
        have hmax2 : max s0 (m : Int) = (m : Int) := by omega
        go_wp2_with fail
        generalize hW3 : w2.setCell ⟨L, k, none⟩ (.int .i64 (m : Int)) = W3 at *
        have HW3 := Lib.hid hW3
        clear hW3
        generalize (q.set k ⟨m, 0, bm⟩) = q1 at *
        go_loopw [9] (fun vj wr => ∃ j : Nat, vj = .int .i64 (j : Int) ∧ j ≤ 8 ∧ OSt w wr p L q1) (fun vj _ => 9 - (intOf vj).toNat)
        case atStart => exact ⟨0, rfl, by omega, H3.out⟩
        case round =>
          obtain ⟨j, rfl, hj, hSj⟩ := hrel
          by_cases hj8 : j < 8
          · have hjz : (j : Int) < 8 := by omega
            have hla := fun w' (h : TabAt w' p q1) => last_any h j
            have hod := mem_at hSj.odd (k := j) (by omega)
            have hgd := hSj.tab.ok.at_ hj8
            have cj : wr.cell? ⟨L, j, none⟩ = some (.int .i64 q1[j]!.s) := hSj.last.cell (lastC_at (by omega))
            rw [lastM_k q1 hj8] at hla
            have hfk := findM_k q1 (k := j) hj8
            generalize hxq : q1[j]! = xq at *
            have HXQ := Lib.hid hxq
            clear hxq
            obtain ⟨sx, ex, bx⟩ := xq
            simp only at hod hgd cj hla hfk
            have HK := Lib.hid (fun n : Nat => (hla (wr.drewN n) (hSj.tab.keep rfl)).mono (fun _ _ h => And.intro h.1 h.2.symm))
            have HSj := Lib.hid hSj
            have HF := Lib.hid hfk
            have HG := Lib.hid hgd
            have HO := Lib.hid hod
            clear hla hSj hfk hgd hod
            go_wp2_with fail
            go_quiet ((go_at_call 14; exact Calls.quiet_of_same (HK.out _)))
            by_cases hsx : 0 < sx
            · have hfi := find_any (HSj.out.tab.keep (w' := wr.drewN nq) rfl) j sx
              rw [HF.out (by omega) (by have := HG.out.1; simp only at this; omega)] at hfi
              simp only [repV] at hfi
              go_wp2_with fail
              refine hfi.mono ?_
              rintro e w5 ⟨rfl, hb5⟩
              have hS5 : OSt w (w5.alloc (.cells #[.int .i64 ex, .bool bx, .slice none 0 0] 32)) p L q1 := (HSj.out.on (below_then (below_drewN (Below.refl _ wr) nq) hb5)).on ((Below.refl _ _).alloc (Nat.le_refl _) _)
              have cj5 : (w5.alloc (.cells #[.int .i64 ex, .bool bx, .slice none 0 0] 32)).cell? ⟨L, j, none⟩ = some (.int .i64 sx) := by
                have := hS5.last.cell (lastC_at (q := q1) (k := j) (by omega))
                rw [HXQ.out] at this
                exact this
              have HS5 := Lib.hid hS5
              have hbx1 : decide (sx % 2 = 1) = bx := (HO.out.2 hsx).symm
              have hbx0 : (sx % 2 == 1) = bx := hbx1
              clear hfi hS5
              go_wp2_with fail
              go_quiet (fail)
              go_wp2_with fail
              exact ⟨⟨j + 1, by go_num, by omega, HS5.out.on (below_drewN (Below.refl _ _) nq)⟩, by simp [intOf]; omega⟩
            · go_wp2_with fail
              exact ⟨⟨j + 1, by go_num, by omega, HSj.out.on (below_drewN (Below.refl _ wr) nq)⟩, by simp [intOf]; omega⟩
          · obtain rfl : j = 8 := by omega
            have h200 : i + 1 ≤ 200 := by omega
            go_wp2_with fail
            exact ⟨⟨i + 1, q1, by go_num, h200, hSj⟩, by simp [intOf]; omega⟩
    · have hend : ¬ (i : Int) < (n : Int) ∨ ¬ (i : Int) < 200 := by omega
      have hbel := hS.bel
      clear hS
      by_cases h1 : (i : Int) < (n : Int)
      · have h2 : ¬ (i : Int) < 200 := by omega
        go_wp2_with (refine haw.mono ?_; rintro e w9 ⟨rfl, hb9⟩)
        go_ret
        exact ⟨rfl, hbel.trans (hb9.mono hbel.size)⟩
      · go_wp2_with (refine haw.mono ?_; rintro e w9 ⟨rfl, hb9⟩)
        go_ret
        exact ⟨rfl, hbel.trans (hb9.mono hbel.size)⟩
end Go.Proofs.YtbijaipoifpngaaDoor.Be
