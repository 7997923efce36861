/- DedupBack: its walk. Conditions: the pairs read as they came; Go's table of powers of ten lies below. -/
import Derived.Test.YtbijaipoifpngaaDoorDOf
import Derived.Test.YtbijaipoifpngaaDoorDLawO
import Derived.StillTailTactics
set_option linter.unusedVariables false
set_option linter.unusedSimpArgs false
set_option maxRecDepth 100000
namespace Go.Proofs.YtbijaipoifpngaaDoor.Be
open Go Go.RowKit
/-- A table, and what was there below. -/
structure BSt (w wr : World) (p : Nat) (q : List E) : Prop where
  tab : TabAt wr p q
  bel : Below w.heap.size w wr
  pw : w.heap.size ≤ p
theorem BSt.on {w w1 w2 : World} {p : Nat} {q : List E} (h : BSt w w1 p q) (hb : Below w1.heap.size w1 w2) : BSt w w2 p q := ⟨h.tab.on hb, h.bel.trans (hb.mono h.bel.size), h.pw⟩
theorem BSt.to {w w1 w2 : World} {p : Nat} {q q' : List E} (h : BSt w w1 p q) (ht : TabAt w2 p q') (hg : w1.grownBy w2 (some p)) : BSt w w2 p q' := ⟨ht, h.bel.grown hg h.bel.size (fun g e => by injection e with e; subst e; exact h.pw), h.pw⟩
/-- Two tables that are the same. -/
structure B2 (w wr : World) (p u : Nat) (q : List E) : Prop where
  t1 : BSt w wr p q
  t2 : BSt w wr u q
  ne : p ≠ u
theorem B2.on {w w1 w2 : World} {p u : Nat} {q : List E} (h : B2 w w1 p u q) (hb : Below w1.heap.size w1 w2) : B2 w w2 p u q := ⟨h.t1.on hb, h.t2.on hb, h.ne⟩
theorem textB_size {q : List E} (h : Okq q) : (textB q).size ≤ 1000000000 := by
  have := (text_facts h).2.2.2.2
  show (enc (textT q)).toArray.size ≤ _
  simp
  omega
set_option maxHeartbeats 8000000 in
theorem dedupBack_walk (A : Option Addr) (n c : Nat) (A2 : Option Addr) (n2 c2 : Nat) (w : World) (hA : PairsAt w w.heap.size A n) (hn : n ≤ maxLen) (hA2 : PairsAt w w.heap.size A2 n2) (hn2 : n2 ≤ maxLen) (hT : Tabs w w.heap.size) : Calls Tryd.prog 8 #[.slice A n c, .slice A2 n2 c2] w (Gives (.bool true) w) := by
  have hnew := new_any w
  go_enter Tryd.func8, Tryd.ntmps8
  go_wp2_with fail
  refine hnew.mono ?_
  rintro e w1 ⟨p, rfl, ht1, hp1, hb1⟩
  clear hnew
  have haw1 := awake_any w.heap.size w1 (hT.on hb1) hb1.size
  by_cases hs : n ≤ 60 ∧ n2 ≤ 60
  · obtain ⟨hs1, hs2⟩ := hs
    have hz1 : ¬ (60 : Int) < (n : Int) := by omega
    have hz2 : ¬ (60 : Int) < (n2 : Int) := by omega
    have h0 : BSt w w1 p q0 := ⟨ht1, hb1, hp1⟩
    clear haw1 ht1 hb1
    go_wp2_with fail
    go_loopw [6] (fun vi wr => ∃ (i : Nat) (q : List E), vi = .int .i64 (i : Int) ∧ i ≤ n ∧ BSt w wr p q) (fun vi _ => n - (intOf vi).toNat)
    case atStart => exact ⟨0, q0, rfl, by omega, h0⟩
    case round =>
      obtain ⟨i, q, rfl, hi, hS⟩ := hrel
      by_cases hlt : i < n
      · have h1z : (i : Int) < (n : Int) := by omega
        obtain ⟨ad, x, y, rfl, hbl, cx, cy⟩ := hA.at_ hS.bel i hlt
        have a7 := i64_and7 x
        have a255 := i64_and255 y
        obtain ⟨k, hk, hk8⟩ : ∃ k : Nat, x % 8 = (k : Int) ∧ k < 8 := ⟨(x % 8).toNat, by omega, by omega⟩
        obtain ⟨m, hm, hm1, hm2⟩ : ∃ m : Nat, IntKind.i64.wrap (1 + y % 256) = (m : Int) ∧ 1 ≤ m ∧ m ≤ 256 := ⟨(1 + y % 256).toNat, by rw [IntKind.wrap_i64]; omega, by omega, by omega⟩
        rw [hk] at a7
        generalize y % 256 = y1 at *
        clear hk
        have HS := Lib.hid (hS.on ((Below.refl _ wr).drew))
        clear hS
        have hput := fun b => put_any HS.out.tab k m 0 b (.slice none 0 0)
        have HPUT := Lib.hid hput
        clear hput
        go_wp2_with fail
        go_still_tail 18, (by kernel_rfl)
        change wpList _ _ _ _ _ wr.drew
        go_wp2_with ((go_at_call 11; refine (HPUT.out _).mono ?_; rintro e w2 ⟨rfl, ht2, hg2⟩))
        exact ⟨⟨i + 1, _, by go_num, by omega, HS.out.to ht2 hg2⟩, by simp [intOf]; omega⟩
      · have h1z : ¬ (i : Int) < (n : Int) := by omega
        have htx := ttext_any hS.tab ((hT.on hS.bel).up hS.bel.size)
        have hok := hS.tab.ok
        have hofs := fun w' => of_any (textB q) (textB_size hok) w'
        rw [ofM_text hok] at hofs
        have HS := Lib.hid hS
        have HOF := Lib.hid hofs
        have HTX := Lib.hid htx
        clear hS hok hofs htx
        generalize textB q = tq at *
        go_wp2_with (first | ((go_at_call 15; refine HTX.out.mono ?_; rintro e w2 ⟨rfl, hb2⟩)) | ((go_at_call 17; refine (HOF.out _).mono ?_; rintro e w3 ⟨u, rfl, ht3, hu3, hb3⟩)))
        have hB0 : B2 w w3 p u q := by
          have hb23 := below_then hb2 hb3
          have hpl := (HS.out.on hb2).tab.row.lt
          have h1 := HS.out.on hb23
          exact ⟨h1, ⟨ht3, h1.bel, by have := (HS.out.on hb2).bel.size; omega⟩, by omega⟩
        clear HTX HOF ht3 hb3 hb2
        go_loopw [9] (fun vi wr => ∃ (i : Nat) (q : List E), vi = .int .i64 (i : Int) ∧ i ≤ n2 ∧ B2 w wr p u q) (fun vi _ => n2 - (intOf vi).toNat)
        case atStart => exact ⟨0, q, rfl, by omega, hB0⟩
        case round =>
          obtain ⟨j, q1, rfl, hj, hS⟩ := hrel
          by_cases hlt2 : j < n2
          · have h2z : (j : Int) < (n2 : Int) := by omega
            obtain ⟨ad, x, y, rfl, hbl, cx, cy⟩ := hA2.at_ hS.t1.bel j hlt2
            have a7 := i64_and7 x
            have a255 := i64_and255 y
            obtain ⟨k, hk, hk8⟩ : ∃ k : Nat, x % 8 = (k : Int) ∧ k < 8 := ⟨(x % 8).toNat, by omega, by omega⟩
            obtain ⟨m, hm, hm1, hm2⟩ : ∃ m : Nat, IntKind.i64.wrap (1 + y % 256) = (m : Int) ∧ 1 ≤ m ∧ m ≤ 256 := ⟨(1 + y % 256).toNat, by rw [IntKind.wrap_i64]; omega, by omega, by omega⟩
            rw [hk] at a7
            generalize y % 256 = y1 at *
            clear hk
            have HS2 := Lib.hid hS
            clear hS
            go_wp2_with fail
            go_quiet (fail)
            have h4 := HS2.out.on (below_drewN (Below.refl _ wr) nq)
            have hf1 := find_any h4.t1.tab k m
            generalize hfm : findM q1 (k : Int) (m : Int) = fr at *
            obtain ⟨⟨fe, fb⟩, fz⟩ := fr
            have HFM := Lib.hid hfm
            simp only [repV] at hf1
            have H4 := Lib.hid h4
            clear hfm h4
            go_wp2_with fail
            refine hf1.mono ?_
            rintro e w5 ⟨rfl, hb5⟩
            have h5 := (H4.out.on hb5).on ((Below.refl _ w5).alloc (Nat.le_refl _) (.cells #[.int .i64 fe, .bool fb, .slice none 0 0] 32))
            have hr5 := Row.new w5 32 [.int .i64 fe, .bool fb, .slice none 0 0]
            have hf2 := find_any h5.t2.tab k m
            rw [HFM.out] at hf2
            simp only [repV] at hf2
            have H5 := Lib.hid h5
            have HR5 := Lib.hid hr5
            clear hf1 hb5 h5 hr5
            go_wp2_with fail
            refine hf2.mono ?_
            rintro e w6 ⟨rfl, hb6⟩
            have h6 := (H5.out.on hb6).on ((Below.refl _ w6).alloc (Nat.le_refl _) (.cells #[.int .i64 fe, .bool fb, .slice none 0 0] 32))
            have c5 : (w6.alloc (.cells #[.int .i64 fe, .bool fb, .slice none 0 0] 32)).cell? ⟨w5.heap.size, 1, none⟩ = some (.bool fb) := ((HR5.out.on hb6).al _).cell rfl
            have hp1 := put_any h6.t1.tab k m 0 false (.slice none 0 0)
            have hp2 := fun (w7 : World) (ht : TabAt w7 u q1) => put_any ht k m 0 false (.slice none 0 0)
            generalize putM q1 (k : Int) (m : Int) 0 false = pr at *
            obtain ⟨q2, z2⟩ := pr
            have H6 := Lib.hid h6
            have HP2 := Lib.hid hp2
            clear hf2 hb6 h6 hp2
            go_wp2_with fail
            generalize w6.alloc (.cells #[.int .i64 fe, .bool fb, .slice none 0 0] 32) = W6 at *
            refine hp1.mono ?_
            rintro e w7 ⟨rfl, ht7, hg7⟩
            clear hp1
            go_wp2_with fail
            have hu7 : TabAt w7 u q1 := H6.out.t2.tab.keep (grown_keep hg7 H6.out.t2.tab.row.lt (Ne.symm H6.out.ne))
            refine (HP2.out w7 hu7).mono ?_
            rintro e w8 ⟨rfl, ht8, hg8⟩
            have hu71 : BSt w w7 p q2 := H6.out.t1.to ht7 hg7
            have hu72 : BSt w w7 u q1 := ⟨hu7, hu71.bel, H6.out.t2.pw⟩
            have h8 : B2 w w8 p u q2 := ⟨⟨ht7.keep (grown_keep hg8 ht7.row.lt H6.out.ne), (hu72.to ht8 hg8).bel, H6.out.t1.pw⟩, hu72.to ht8 hg8, H6.out.ne⟩
            clear ht8 hg8 hu71 hu72 ht7 hg7 hu7
            go_wp2_with fail
            exact ⟨⟨j + 1, _, by go_num, by omega, h8⟩, by simp [intOf]; omega⟩
          · have h2z : ¬ (j : Int) < (n2 : Int) := by omega
            have hx1 := ttext_any hS.t1.tab ((hT.on hS.t1.bel).up hS.t1.bel.size)
            have hx2 := fun (w' : World) (hb : Below wr.heap.size wr w') => ttext_any (hS.on hb).t2.tab ((hT.on (hS.on hb).t1.bel).up (hS.on hb).t1.bel.size)
            have haw := fun (w' : World) (hb : Below wr.heap.size wr w') => awake_any w.heap.size w' (hT.on (hS.on hb).t1.bel) (hS.on hb).t1.bel.size
            have hbel := hS.t1.bel
            have HX1 := Lib.hid hx1
            have HX2 := Lib.hid hx2
            have HAW := Lib.hid haw
            clear hS hx1 hx2 haw
            generalize textB q1 = tq1 at *
            go_wp2_with (first
              | ((go_at_call 15; with_reducible refine HX1.out.mono ?_; rintro e w2 ⟨rfl, hb2⟩; clear HX1))
              | ((go_at_call 15; with_reducible refine (HX2.out _ hb2).mono ?_; rintro e w3 ⟨rfl, hb3⟩; clear HX2))
              | ((go_at_call 18; refine (HAW.out _ (below_then hb2 hb3)).mono ?_; rintro e w4 ⟨rfl, hb4⟩)))
            go_ret
            exact ⟨rfl, hbel.trans ((below_then (below_then hb2 hb3) hb4).mono hbel.size)⟩
  · clear ht1
    by_cases h1 : (60 : Int) < (n : Int)
    · go_wp2_with (refine haw1.mono ?_; rintro e w9 ⟨rfl, hb9⟩)
      go_ret
      exact ⟨rfl, hb1.trans (hb9.mono hb1.size)⟩
    · have h2 : (60 : Int) < (n2 : Int) := by omega
      go_wp2_with (refine haw1.mono ?_; rintro e w9 ⟨rfl, hb9⟩)
      go_ret
      exact ⟨rfl, hb1.trans (hb9.mono hb1.size)⟩
end Go.Proofs.YtbijaipoifpngaaDoor.Be
