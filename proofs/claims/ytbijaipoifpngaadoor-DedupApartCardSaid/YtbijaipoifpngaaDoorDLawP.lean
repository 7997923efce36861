/- DedupApart: its walk. Conditions: the numbers read as they came; Go's table of powers of ten lies below. -/
import Derived.Test.YtbijaipoifpngaaDoorDLawB
import Derived.Test.YtbijaipoifpngaaDoorDOpen
set_option linter.unusedVariables false
set_option linter.unusedSimpArgs false
set_option maxRecDepth 100000
namespace Go.Proofs.YtbijaipoifpngaaDoor.Be
open Go Go.RowKit
theorem i64_and65535 (n : Int) : bits .and .i64 n 65535 = n % 65536 := by
  have hm : (BitVec.ofInt 64 65535).toNat = 2 ^ 16 - 1 := by decide
  have key : (BitVec.ofInt 64 n &&& BitVec.ofInt 64 65535).toNat = (n % ((2 ^ 64 : Nat) : Int)).toNat % 2 ^ 16 := by
    rw [BitVec.toNat_and, BitVec.toNat_ofInt, hm, Nat.and_two_pow_sub_one_eq_mod]
  show IntKind.i64.wrap ((BitVec.ofInt 64 n &&& BitVec.ofInt 64 65535).toNat : Nat) = n % 65536
  rw [key, IntKind.wrap_i64]
  omega
theorem i64_and31 (n : Int) : bits .and .i64 n 31 = n % 32 := by
  have hm : (BitVec.ofInt 64 31).toNat = 2 ^ 5 - 1 := by decide
  have key : (BitVec.ofInt 64 n &&& BitVec.ofInt 64 31).toNat = (n % ((2 ^ 64 : Nat) : Int)).toNat % 2 ^ 5 := by
    rw [BitVec.toNat_and, BitVec.toNat_ofInt, hm, Nat.and_two_pow_sub_one_eq_mod]
  show IntKind.i64.wrap ((BitVec.ofInt 64 n &&& BitVec.ofInt 64 31).toNat : Nat) = n % 32
  rw [key, IntKind.wrap_i64]
  omega
def stepE (b : Bool) (x : E) (v : Int) : E := if seqB v = true ∧ ¬ v ≤ x.s then ⟨v, 0, b⟩ else x
def qXY (x y : E) : List E := [e0, e0, x, e0, e0, y, e0, e0]
theorem put2 (x y : E) (v : Int) : (putM (qXY x y) 2 v 0 false).1 = qXY (stepE false x v) y := by
  have h : (mayB 2 v && errB 0) = seqB v := by
    unfold mayB
    rw [show cliB 2 = true from by decide, show errB 0 = true from by decide]
    simp
  unfold putM stepE
  rw [h]
  by_cases h1 : seqB v = true
  · rw [if_pos h1]
    have e1 : (qXY x y)[(2 : Int).toNat]! = x := rfl
    rw [e1]
    by_cases h2 : v ≤ x.s
    · rw [if_pos h2, if_neg (fun h => h.2 h2)]
    · rw [if_neg h2, if_pos ⟨h1, h2⟩]
      rfl
  · rw [if_neg h1, if_neg (fun h => h1 h.1)]
theorem put5 (x y : E) (v : Int) : (putM (qXY x y) 5 v 0 true).1 = qXY x (stepE true y v) := by
  have h : (mayB 5 v && errB 0) = seqB v := by
    unfold mayB
    rw [show cliB 5 = true from by decide, show errB 0 = true from by decide]
    simp
  unfold putM stepE
  rw [h]
  by_cases h1 : seqB v = true
  · rw [if_pos h1]
    have e1 : (qXY x y)[(5 : Int).toNat]! = y := rfl
    rw [e1]
    by_cases h2 : v ≤ y.s
    · rw [if_pos h2, if_neg (fun h => h.2 h2)]
    · rw [if_neg h2, if_pos ⟨h1, h2⟩]
      rfl
  · rw [if_neg h1, if_neg (fun h => h1 h.1)]
def foldE (b : Bool) (f : Nat → Int) : Nat → E
  | 0 => e0
  | i + 1 => stepE b (foldE b f i) (f i % 65536)
def IntsF (w : World) (B : Nat) (A : Option Addr) (n : Nat) (f : Nat → Int) : Prop := ∀ i, i < n → ∃ ad, A = some ad ∧ ad.block < B ∧ w.cell? (ad.add i) = some (.int .i64 (f i))
theorem ints_fun {w : World} {B n : Nat} {A : Option Addr} (h : IntsAt w B A n) : ∃ f, IntsF w B A n f := by
  obtain ⟨f, hf⟩ := Go.Deep.choose_lt (p := fun i x => ∃ ad, A = some ad ∧ ad.block < B ∧ w.cell? (ad.add i) = some (.int .i64 x)) (n := n) (fun i hi => by
    obtain ⟨ad, x, h1, h2, h3⟩ := h i hi
    exact ⟨x, ad, h1, h2, h3⟩)
  exact ⟨f, hf⟩
/-- Two tables. -/
structure P2 (w wr : World) (p u : Nat) (q1 q2 : List E) : Prop where
  t1 : BSt w wr p q1
  t2 : BSt w wr u q2
  ne : p ≠ u
theorem P2.on {w w1 w2 : World} {p u : Nat} {q1 q2 : List E} (h : P2 w w1 p u q1 q2) (hb : Below w1.heap.size w1 w2) : P2 w w2 p u q1 q2 := ⟨h.t1.on hb, h.t2.on hb, h.ne⟩
theorem P2.putt1 {w w1 w2 : World} {p u : Nat} {q1 q2 q : List E} (h : P2 w w1 p u q1 q2) (ht : TabAt w2 p q) (hg : w1.grownBy w2 (some p)) : P2 w w2 p u q q2 :=
  ⟨h.t1.to ht hg, ⟨h.t2.tab.keep (grown_keep hg h.t2.tab.row.lt (Ne.symm h.ne)), (h.t1.to ht hg).bel, h.t2.pw⟩, h.ne⟩
theorem P2.putt2 {w w1 w2 : World} {p u : Nat} {q1 q2 q : List E} (h : P2 w w1 p u q1 q2) (ht : TabAt w2 u q) (hg : w1.grownBy w2 (some u)) : P2 w w2 p u q1 q :=
  ⟨⟨h.t1.tab.keep (grown_keep hg h.t1.tab.row.lt h.ne), (h.t2.to ht hg).bel, h.t1.pw⟩, h.t2.to ht hg, h.ne⟩
set_option maxHeartbeats 8000000 in
theorem dedupApart_walk (A : Option Addr) (n c : Nat) (B : Option Addr) (m d : Nat) (mx : Int) (w : World) (hA : IntsAt w w.heap.size A n) (hn : n ≤ maxLen) (hB : IntsAt w w.heap.size B m) (hm : m ≤ maxLen) (hT : Tabs w w.heap.size) : Calls Tryd.prog 6 #[.slice A n c, .slice B m d, .int .i64 mx] w (Gives (.bool true) w) := by
  obtain ⟨f, hfA⟩ := ints_fun hA
  obtain ⟨g, hfB⟩ := ints_fun hB
  clear hA hB
  have hnew := new_any w
  go_enter Tryd.func6, Tryd.ntmps6
  go_wp2_with fail
  refine hnew.mono ?_
  rintro e w1 ⟨p, rfl, ht1, hp1, hb1⟩
  have hnew2 := new_any w1
  clear hnew
  go_wp2_with fail
  refine hnew2.mono ?_
  rintro e w2 ⟨u, rfl, ht2, hp2, hb2⟩
  clear hnew2
  have h0 : P2 w w2 p u (qXY e0 e0) (qXY e0 e0) := by
    have hpl := ht1.row.lt
    have hbb := hb1.trans (hb2.mono hb1.size)
    have h1s := hb1.size
    exact ⟨⟨ht1.on hb2, hbb, hp1⟩, ⟨ht2, hbb, by omega⟩, by omega⟩
  have hbel := h0.t1.bel
  have haw := awake_any w.heap.size w2 (hT.on hbel) hbel.size
  clear ht1 ht2 hb1 hb2
  by_cases hs : n ≤ 60 ∧ m ≤ 60
  · obtain ⟨hs1, hs2⟩ := hs
    have hz1 : ¬ (60 : Int) < (n : Int) := by omega
    have hz2 : ¬ (60 : Int) < (m : Int) := by omega
    clear haw hbel
    go_wp2_with fail
    go_loopw [9] (fun vi wr => ∃ i : Nat, vi = .int .i64 (i : Int) ∧ i ≤ n ∧ P2 w wr p u (qXY (foldE false f i) e0) (qXY e0 e0)) (fun vi _ => n - (intOf vi).toNat)
    case atStart => exact ⟨0, rfl, by omega, h0⟩
    case round =>
      obtain ⟨i, rfl, hi, hS⟩ := hrel
      by_cases hlt : i < n
      · have h1z : (i : Int) < (n : Int) := by omega
        obtain ⟨adA, hAA, hbl, cx0⟩ := hfA i hlt
        have cx : wr.cell? (adA.add i) = some (.int .i64 (f i)) := (hS.t1.bel.cell (by rw [block_of_add]; exact hbl)).trans cx0
        subst hAA
        have a16 := i64_and65535 (f i)
        have hput := put_any hS.t1.tab 2 (f i % 65536) 0 false (.slice none 0 0)
        have HS := Lib.hid hS
        have HPUT := Lib.hid hput
        clear hS hput cx0
        go_wp2_with fail
        refine HPUT.out.mono ?_
        rintro e w2 ⟨rfl, ht2, hg2⟩
        rw [put2] at ht2
        have h2 : P2 w w2 p u _ _ := HS.out.putt1 ht2 hg2
        clear ht2 hg2 HPUT HS
        go_wp2_with fail
        exact ⟨⟨i + 1, by go_num, by omega, h2⟩, by simp [intOf]; omega⟩
      · obtain rfl : i = n := by omega
        go_wp2_with fail
        go_loopw [10] (fun vi wr => ∃ i' : Nat, vi = .int .i64 (i' : Int) ∧ i' ≤ m ∧ P2 w wr p u (qXY (foldE false f i) (foldE true g i')) (qXY e0 e0)) (fun vi _ => m - (intOf vi).toNat)
        case atStart => exact ⟨0, rfl, by omega, hS⟩
        case round =>
          obtain ⟨j, rfl, hj, hS⟩ := hrel
          by_cases hlt : j < m
          · have h1z : (j : Int) < (m : Int) := by omega
            obtain ⟨adB, hAB, hbl, cx0⟩ := hfB j hlt
            have cx : wr.cell? (adB.add j) = some (.int .i64 (g j)) := (hS.t1.bel.cell (by rw [block_of_add]; exact hbl)).trans cx0
            subst hAB
            have a16 := i64_and65535 (g j)
            have hput := put_any hS.t1.tab 5 (g j % 65536) 0 true (.slice none 0 0)
            have HS := Lib.hid hS
            have HPUT := Lib.hid hput
            clear hS hput cx0
            go_wp2_with fail
            refine HPUT.out.mono ?_
            rintro e w2 ⟨rfl, ht2, hg2⟩
            rw [put5] at ht2
            have h2 : P2 w w2 p u _ _ := HS.out.putt1 ht2 hg2
            clear ht2 hg2 HPUT HS
            go_wp2_with fail
            exact ⟨⟨j + 1, by go_num, by omega, h2⟩, by simp [intOf]; omega⟩
          · obtain rfl : j = m := by omega
            go_wp2_with fail
            go_loopw [11, 12, 13] (fun v1 v2 v3 wr => ∃ x y : Nat, v1 = .int .i64 (x : Int) ∧ v2 = .int .i64 (y : Int) ∧ v3 = .int .i64 ((x + y : Nat) : Int) ∧ x ≤ i ∧ y ≤ j ∧ P2 w wr p u (qXY (foldE false f i) (foldE true g j)) (qXY (foldE false f x) (foldE true g y))) (fun v1 v2 _ _ => (i - (intOf v1).toNat) + (j - (intOf v2).toNat))
            case atStart => exact ⟨0, 0, rfl, rfl, rfl, by omega, by omega, hS⟩
            case round =>
              obtain ⟨x, y, rfl, rfl, rfl, hx, hy, hS⟩ := hrel
              have a31 := i64_and31 ((x + y : Nat) : Int)
              have hxy : ((x + y : Nat) : Int) ≤ 120 := by omega
              have hxy1 : ((x + y : Nat) : Int) + 1 = ((x + y + 1 : Nat) : Int) := by omega
              have HXY := Lib.hid hxy1
              have hr0 : 0 ≤ ((x + y : Nat) : Int) % 32 := by omega
              have hr1 : ((x + y : Nat) : Int) % 32 ≤ 64 := by omega
              clear hxy1
              generalize hxyz : ((x + y : Nat) : Int) = xy at *
              have HXYZ := Lib.hid hxyz
              clear hxyz
              have hxy0 : 0 ≤ xy := by have := HXYZ.out; omega
              generalize xy % 32 = r at *
              by_cases hyj : y < j
              · have hyz : (y : Int) < (j : Int) := by omega
                have hye : ((y : Int) == (j : Int)) = false := by simp; omega
                by_cases hxi : x < i
                · have hxz : (x : Int) < (i : Int) := by omega
                  obtain ⟨adA, hAA, hblA, cxA0⟩ := hfA x hxi
                  obtain ⟨adB, hAB, hblB, cxB0⟩ := hfB y hyj
                  have cxA : wr.cell? (adA.add x) = some (.int .i64 (f x)) := (hS.t1.bel.cell (by rw [block_of_add]; exact hblA)).trans cxA0
                  have cxB : wr.cell? (adB.add y) = some (.int .i64 (g y)) := (hS.t1.bel.cell (by rw [block_of_add]; exact hblB)).trans cxB0
                  subst hAA
                  subst hAB
                  have a16 := i64_and65535 (f x)
                  have b16 := i64_and65535 (g y)
                  have hputA := put_any hS.t2.tab 2 (f x % 65536) 0 false (.slice none 0 0)
                  have hputB := put_any hS.t2.tab 5 (g y % 65536) 0 true (.slice none 0 0)
                  have HS := Lib.hid hS
                  have HA := Lib.hid hputA
                  have HB := Lib.hid hputB
                  clear hS hputA hputB cxA0 cxB0 hblA hblB
                  go_wp2_with fail
                  all_goals first
                    | ((with_reducible refine HA.out.mono ?_); rintro e w2 ⟨rfl, ht2, hg2⟩; rw [put2] at ht2; have h2 := Lib.hid (HS.out.putt2 ht2 hg2); clear ht2 hg2 HA HB HS)
                    | ((with_reducible refine HB.out.mono ?_); rintro e w2 ⟨rfl, ht2, hg2⟩; rw [put5] at ht2; have h2 := Lib.hid (HS.out.putt2 ht2 hg2); clear ht2 hg2 HA HB HS)
                  all_goals go_wp2_with fail
                  all_goals first
                    | exact ⟨⟨x + 1, y, by go_num, rfl, by have h := HXYZ.out; exact congrArg (Value.int .i64) (by omega), by omega, by omega, h2.out⟩, by simp [intOf]; omega⟩
                    | exact ⟨⟨x, y + 1, rfl, by go_num, by have h := HXYZ.out; exact congrArg (Value.int .i64) (by omega), by omega, by omega, h2.out⟩, by simp [intOf]; omega⟩
                · have hxz : ¬ (x : Int) < (i : Int) := by omega
                  obtain ⟨adB, hAB, hbl, cx0⟩ := hfB y hyj
                  have cx : wr.cell? (adB.add y) = some (.int .i64 (g y)) := (hS.t1.bel.cell (by rw [block_of_add]; exact hbl)).trans cx0
                  subst hAB
                  have a16 := i64_and65535 (g y)
                  have hput := put_any hS.t2.tab 5 (g y % 65536) 0 true (.slice none 0 0)
                  have HS := Lib.hid hS
                  have HPUT := Lib.hid hput
                  clear hS hput cx0
                  go_wp2_with fail
                  refine HPUT.out.mono ?_
                  rintro e w2 ⟨rfl, ht2, hg2⟩
                  rw [put5] at ht2
                  have h2 : P2 w w2 p u _ _ := HS.out.putt2 ht2 hg2
                  clear ht2 hg2 HPUT HS
                  go_wp2_with fail
                  exact ⟨⟨x, y + 1, rfl, by go_num, by have h := HXYZ.out; exact congrArg (Value.int .i64) (by omega), by omega, by omega, h2⟩, by simp [intOf]; omega⟩
              · obtain rfl : y = j := by omega
                have hyz : ¬ (y : Int) < (y : Int) := by omega
                by_cases hxi : x < i
                · have hxz : (x : Int) < (i : Int) := by omega
                  obtain ⟨adA, hAA, hbl, cx0⟩ := hfA x hxi
                  have cx : wr.cell? (adA.add x) = some (.int .i64 (f x)) := (hS.t1.bel.cell (by rw [block_of_add]; exact hbl)).trans cx0
                  subst hAA
                  have a16 := i64_and65535 (f x)
                  have hput := put_any hS.t2.tab 2 (f x % 65536) 0 false (.slice none 0 0)
                  have HS := Lib.hid hS
                  have HPUT := Lib.hid hput
                  clear hS hput cx0
                  go_wp2_with fail
                  refine HPUT.out.mono ?_
                  rintro e w2 ⟨rfl, ht2, hg2⟩
                  rw [put2] at ht2
                  have h2 : P2 w w2 p u _ _ := HS.out.putt2 ht2 hg2
                  clear ht2 hg2 HPUT HS
                  go_wp2_with fail
                  exact ⟨⟨x + 1, y, by go_num, rfl, by have h := HXYZ.out; exact congrArg (Value.int .i64) (by omega), by omega, by omega, h2⟩, by simp [intOf]; omega⟩
                · obtain rfl : x = i := by omega
                  have hxz : ¬ (x : Int) < (x : Int) := by omega
                  have hx1 := ttext_any hS.t1.tab ((hT.on hS.t1.bel).up hS.t1.bel.size)
                  have hx2 := fun (w' : World) (hb : Below wr.heap.size wr w') => ttext_any (hS.on hb).t2.tab ((hT.on (hS.on hb).t1.bel).up (hS.on hb).t1.bel.size)
                  have haw := fun (w' : World) (hb : Below wr.heap.size wr w') => awake_any w.heap.size w' (hT.on (hS.on hb).t1.bel) (hS.on hb).t1.bel.size
                  have hbel := hS.t1.bel
                  have HX1 := Lib.hid hx1
                  have HX2 := Lib.hid hx2
                  have HAW := Lib.hid haw
                  clear hS hx1 hx2 haw
                  generalize textB (qXY (foldE false f x) (foldE true g y)) = tq1 at *
                  go_wp2_with (first
                    | ((go_at_call 15; with_reducible refine HX1.out.mono ?_; rintro e w2 ⟨rfl, hb2⟩; clear HX1))
                    | ((go_at_call 15; with_reducible refine (HX2.out _ hb2).mono ?_; rintro e w3 ⟨rfl, hb3⟩; clear HX2))
                    | ((go_at_call 18; refine (HAW.out _ (below_then hb2 hb3)).mono ?_; rintro e w4 ⟨rfl, hb4⟩)))
                  go_ret
                  exact ⟨rfl, hbel.trans ((below_then (below_then hb2 hb3) hb4).mono hbel.size)⟩
  · by_cases h1 : (60 : Int) < (n : Int)
    · go_wp2_with (refine haw.mono ?_; rintro e w9 ⟨rfl, hb9⟩)
      go_ret
      exact ⟨rfl, hbel.trans (hb9.mono hbel.size)⟩
    · have h2 : (60 : Int) < (m : Int) := by omega
      go_wp2_with (refine haw.mono ?_; rintro e w9 ⟨rfl, hb9⟩)
      go_ret
      exact ⟨rfl, hbel.trans (hb9.mono hbel.size)⟩
end Go.Proofs.YtbijaipoifpngaaDoor.Be
