/- VptreeDrops: points that are put in and dropped again leave the tree as it was. Conditions: the slices of pairs read as lists. -/
import Derived.Test.YtkgapieikgniiaaVTwo
import Derived.Deep.LoopGhost
set_option linter.unusedVariables false
set_option linter.unusedSimpArgs false
namespace Go.Proofs.Ytkgapieikgniiaa
open Go Go.RowKit Go.Maps
theorem tpeql_none (d : Nat) (w : World) : (binOp .eql 23 (.pointer (some ⟨d, 0, none⟩)) (.pointer none)).run Try.prog w = .ok (.bool false) w := by
  obtain ⟨i, hi, _⟩ := Option.map_eq_some_iff.1 (show (Try.prog.info? 66).map (fun i => i.size) = some 5 by kernel_rfl)
  have h : ∀ d' : Nat, (Op.equalIn (d' + 1) 23 (.pointer (some ⟨d, 0, none⟩)) (.pointer none)).run Try.prog w = .ok false w := fun d' => by
    simp [Op.equalIn, run_underlying Try.underlying23, sizeOf, typeInfo, hi]
  simp only [binOp]
  simp [Op.equal, Op.maxDepth, h 9999]
set_option maxHeartbeats 4000000 in
set_option maxRecDepth 100000 in
theorem vptreeDrops_walk (A0 : Option Addr) (n0 c0 : Nat) (l0 : List (Int × Int)) (A1 : Option Addr) (n1 c1 : Nat) (l1 : List (Int × Int)) (x y : Int) (w : World) (hR0 : Reads w w.heap.size 2 A0 n0 (twos l0)) (hm0 : n0 ≤ maxLen) (hR1 : Reads w w.heap.size 2 A1 n1 (twos l1)) (hm1 : n1 ≤ maxLen) (hxy : (-9223372036854775808 ≤ x ∧ x ≤ 9223372036854775807)) (hxy2 : (-9223372036854775808 ≤ y ∧ y ≤ 9223372036854775807)) :
    Calls Try.prog 10 #[.slice A0 n0 c0, .slice A1 n1 c1, .agg #[.int .i64 x, .int .i64 y]] w (Gives (.bool true) w) := by
  have HAW := Lib.hid awake_any
  have h1 := and255 x
  have h2 := and255 y
  have HCK := Lib.hid (ck_cut (m := 256) (by omega) (by omega) (x, y))
  unfold cutP at HCK
  simp only at HCK
  generalize x % 256 = X at *
  generalize y % 256 = Y at *
  clear hxy hxy2
  have HL0 := Lib.hid hR0.twos_len
  have HL1 := Lib.hid hR1.twos_len
  have HR0 := Lib.hid hR0
  have HR1 := Lib.hid hR1
  unfold maxLen at hm0 hm1
  clear hR0 hR1
  obtain ⟨W1, hW1⟩ : ∃ W1, W1 = w.alloc (.cells #[.int .i64 x, .int .i64 y] 44) := ⟨_, rfl⟩
  have b1 : Below w.heap.size w W1 := by rw [hW1]; exact (Below.refl _ w).alloc (Nat.le_refl _) _
  have s1 : W1.heap.size = w.heap.size + 1 := by rw [hW1]; simp
  have r1 : Row W1 w.heap.size 44 [.int .i64 x, .int .i64 y] := by rw [hW1]; exact Row.new w _ [.int .i64 x, .int .i64 y]
  have hnew := vnew_any 2 W1 (by omega) (by omega)
  have HW := Lib.hid hW1.symm
  have HB := Lib.hid (And.intro b1 (And.intro s1 r1))
  clear b1 s1 r1 hW1
  go_enter Try.func10, Try.ntmps10
  go_wp2_with fail
  rw [HW.out]
  refine hnew.mono ?_
  rintro e w2 ⟨F2, a, rfl, ht2, hF2, hb2⟩
  have hnew2 := vnew_any 2 w2 (by omega) (by omega)
  have HA2 := Lib.hid (And.intro ht2 (And.intro hF2 hb2))
  clear ht2 hF2 hb2 hnew
  go_wp2_with fail
  refine hnew2.mono ?_
  rintro e w3 ⟨F3, b, rfl, ht3, hF3, hb3⟩
  have hT3 : Two W1.heap.size W1 w3 F2 a [] F3 b [] :=
    ⟨HA2.out.1.below hb3, ht3, fun x h1 h2 => by have := HA2.out.1.lt x h1; have := hF3 x h2; omega, HA2.out.2.1, fun x h => Nat.le_trans HA2.out.2.2.size (hF3 x h), HA2.out.2.2.trans (hb3.mono HA2.out.2.2.size), Nat.le_trans HA2.out.2.2.size hb3.size⟩
  have HT3 := Lib.hid hT3
  have ea := tpeql_none a
  have eb := tpeql_none b
  clear hT3 ht3 hF3 hb3 hnew2 HA2
  by_cases h40 : 40 < n0
  · have hz : (40 : Int) < (n0 : Int) := by omega
    go_wp2_with fail
    refine (HAW.out _).mono ?_
    rintro e w4 ⟨rfl, hb4⟩
    go_wp2_with fail
    go_ret
    exact ⟨rfl, HB.out.1.trans (((HT3.out.under hb4).below).mono HB.out.1.size)⟩
  · have hz : ¬ (40 : Int) < (n0 : Int) := by omega
    by_cases h41 : 40 < n1
    · have hz1 : (40 : Int) < (n1 : Int) := by omega
      go_wp2_with fail
      refine (HAW.out _).mono ?_
      rintro e w4 ⟨rfl, hb4⟩
      go_wp2_with fail
      go_ret
      exact ⟨rfl, HB.out.1.trans (((HT3.out.under hb4).below).mono HB.out.1.size)⟩
    · have hz1 : ¬ (40 : Int) < (n1 : Int) := by omega
      obtain ⟨V0, hV0⟩ : ∃ V0 : Nat → List Int, V0 = fun j => cutP 256 (l0.getD j (0, 0)) := ⟨_, rfl⟩
      obtain ⟨V1, hV1⟩ : ∃ V1 : Nat → List Int, V1 = fun j => cutP 256 (l1.getD j (0, 0)) := ⟨_, rfl⟩
      have HV := Lib.hid (And.intro hV0 hV1)
      clear hV0 hV1
      go_wp2_with fail
      go_loopg [11] (max n0 n1) (fun gx vi wr => ∃ (i : Nat) (Fa Fb : Nat → Prop), i ≤ max n0 n1 ∧ max n0 n1 - i ≤ gx ∧ vi = .int .i64 i ∧ Hid (Two W1.heap.size W1 wr Fa a (rng 0 V0 0 (min i n0)) Fb b (rng 0 V0 0 (min i n0) ++ rng 1000 V1 0 (min i n1))))
      case atStart => exact ⟨0, F2, F3, by omega, by omega, rfl, by simpa [rng_nil] using HT3⟩
      case round =>
        obtain ⟨i, Fa, Fb, hi, hgx, rfl, HT⟩ := hrel
        clear HT3
        by_cases hlt : i < max n0 n1
        · have hltz : (i : Int) < max (n0 : Int) (n1 : Int) := by omega
          by_cases hi0 : i < n0
          · have hiz : (i : Int) < (n0 : Int) := by omega
            have hbw : Below w.heap.size w wr := HB.out.1.trans (HT.out.below.mono HB.out.1.size)
            obtain ⟨ad, hA, hab, hil, x0, x1⟩ := (HR0.out.below hbw).two_at hi0
            subst hA
            have hv0 : V0 i = cutP 256 (l0.getD i (0, 0)) := by rw [HV.out.1]
            have ha0 := and255 (l0.getD i (0, 0)).1
            have ha1 := and255 (l0.getD i (0, 0)).2
            unfold cutP at hv0
            generalize (l0.getD i (0, 0)).1 % 256 = X0 at *
            generalize (l0.getD i (0, 0)).2 % 256 = X1 at *
            generalize (l0.getD i (0, 0)).1 = Z0 at *
            generalize (l0.getD i (0, 0)).2 = Z1 at *
            have cl : (ad.add (i * 2)).block < wr.heap.size := lt_of_cell x0
            have HV0 := Lib.hid hv0
            clear hv0 hil hab hbw
            go_upto_region 9 with fail
            go_cut [12] from 81 to 95 (fun s12 wc => ∃ (bx g : Nat), s12 = .pointer (some ⟨bx, 0, none⟩) ∧ Hid (Boxed wr wc bx g (i : Int) X0 X1))
            case first =>
              go_region
              all_goals
                go_wp2_with fail
                go_meet
                first
                  | exact ⟨_, _, rfl, Lib.hid (boxedA wr (i : Int) X0 X1)⟩
                  | exact ⟨_, _, rfl, Lib.hid (boxedB wr (i : Int) X0 X1)⟩
            case rest =>
              obtain ⟨bx, g, rfl, HX⟩ := hcut
              have z0 := HX.out.row.cell (j := 0) rfl
              have z1 := HX.out.row.cell (j := 1) rfl
              have zl := HX.out.row.lt
              have T4 := HT.out.under HX.out.below
              have hna : ¬ Fa g := fun hF => by have := HT.out.ta.lt _ hF; have := HX.out.ug; omega
              have hnb : ¬ Fb g := fun hF => by have := HT.out.tb.lt _ hF; have := HX.out.ug; omega
              have hxa : ¬ Fa bx := fun hF => by have := HT.out.ta.lt _ hF; have := HX.out.ubx; omega
              have hck : ck [X0, X1] 2 = 0 := by rw [← HV0.out, HV.out.1]; exact ck_cut (by omega) (by omega) _
              have hputa := two_puta (x := (i : Int)) (c := 2) T4 (WalkArith.wf_i64 (by omega)) HX.out.vec (by have := HX.out.glt; omega) (by unfold maxLen; simp) (fun ad e hF => by
                injection e with e
                subst e
                exact hna hF) hck (by rw [rng_len]; omega)
              have HN := Lib.hid (And.intro hnb (And.intro hxa (And.intro hna hck)))
              clear T4 hna hnb hxa hck x0 x1
              go_wp2_with fail
              refine hputa.mono ?_
              rintro e w4 ⟨rfl, F4, T4, K4⟩
              have row4 : Row w4 bx 37 [.int .i64 i, .slice (some ⟨g, 0, none⟩) 2 2] := HX.out.row.keep (K4.block bx HX.out.row.lt HN.out.2.1)
              have vec4 : Reads w4 (g + 1) 1 (some ⟨g, 0, none⟩) 2 (ints [X0, X1]) := by
                refine ⟨HX.out.vec.1, fun h0 => ?_⟩
                obtain ⟨ad, e, h1, h2⟩ := HX.out.vec.2 h0
                injection e with e
                subst e
                exact ⟨_, rfl, h1, fun j u hj => (World.cell?_of_block (by rw [block_of_add]; exact K4.block g HX.out.glt HN.out.2.2.1)).trans (h2 j u hj)⟩
              have y0 := row4.cell (j := 0) rfl
              have y1 := row4.cell (j := 1) rfl
              have yl := row4.lt
              have e4 : putT (i : Int) [X0, X1] (rng 0 V0 0 (min i n0)) = rng 0 V0 0 (min (i + 1) n0) := by
                rw [show min (i + 1) n0 = i + 1 by omega, show min i n0 = i by omega, rng_snoc (Nat.zero_le i), HV0.out, putT_end (fun p hp => by
                  obtain ⟨j, _, h2, rfl⟩ := rng_mem hp
                  show (0 : Int) + (j : Int) < (i : Int)
                  omega), Int.zero_add]
              have e5 : putT (i : Int) [X0, X1] (rng 0 V0 0 (min i n0) ++ rng 1000 V1 0 (min i n1)) = rng 0 V0 0 (min (i + 1) n0) ++ rng 1000 V1 0 (min i n1) := by
                rw [show min (i + 1) n0 = i + 1 by omega, show min i n0 = i by omega, rng_snoc (Nat.zero_le i), HV0.out, putT_mid (fun p hp => by
                  obtain ⟨j, _, h2, rfl⟩ := rng_mem hp
                  show (0 : Int) + (j : Int) < (i : Int)
                  omega) (fun p hp => by
                  obtain ⟨j, _, h2, rfl⟩ := rng_mem hp
                  show (i : Int) < (1000 : Int) + (j : Int)
                  omega), Int.zero_add, List.append_assoc]
                rfl
              rw [e4] at T4
              have hputb := two_putb (x := (i : Int)) (c := 2) T4 (WalkArith.wf_i64 (by omega)) vec4 (by have := HX.out.glt; have := K4.size; omega) (by unfold maxLen; simp) (fun ad e hF => by
                injection e with e
                subst e
                exact HN.out.1 hF) HN.out.2.2.2 (by rw [List.length_append, rng_len, rng_len]; omega)
              have HE5 := Lib.hid e5
              clear row4 vec4 e4 e5 T4 K4 hputa z0 z1 zl HX HN
              go_wp2_with fail
              refine hputb.mono ?_
              rintro e w5 ⟨rfl, F5, T5, _⟩
              rw [HE5.out] at T5
              have HT5 := Lib.hid T5
              clear T5 hputb y0 y1 yl HE5 HT
              by_cases hi1 : i < n1
              · have hiz1 : (i : Int) < (n1 : Int) := by omega
                have hwr : IntKind.i64.wrap (1000 + (i : Int)) = 1000 + (i : Int) := by rw [IntKind.wrap_i64]; omega
                have hbw5 : Below w.heap.size w w5 := HB.out.1.trans (HT5.out.below.mono HB.out.1.size)
                obtain ⟨ae, hE, heb, hel, y0, y1⟩ := (HR1.out.below hbw5).two_at hi1
                subst hE
                have HKP : Hid (∀ w' : World, Below w.heap.size w w' → w'.cell? (ae.add (i * 2)) = some (.int .i64 (l1.getD i (0, 0)).1) ∧ w'.cell? ⟨(ae.add (i * 2)).block, (ae.add (i * 2)).off + 1, none⟩ = some (.int .i64 (l1.getD i (0, 0)).2)) := Lib.hid (fun w' hw' => by
                  obtain ⟨ae', e', _, _, q0, q1⟩ := (HR1.out.below hw').two_at hi1
                  injection e' with e'
                  subst e'
                  exact ⟨q0, q1⟩)
                have hv1 : V1 i = cutP 256 (l1.getD i (0, 0)) := by rw [HV.out.2]
                have hb0 := and255 (l1.getD i (0, 0)).1
                have hb1 := and255 (l1.getD i (0, 0)).2
                unfold cutP at hv1
                generalize (l1.getD i (0, 0)).1 % 256 = Y0 at *
                generalize (l1.getD i (0, 0)).2 % 256 = Y1 at *
                generalize (l1.getD i (0, 0)).1 = U0 at *
                generalize (l1.getD i (0, 0)).2 = U1 at *
                have cl5 : (ae.add (i * 2)).block < w5.heap.size := lt_of_cell y0
                have M6 := HT5.out.under ((Below.refl _ w5).alloc (Nat.le_refl _) (.cells #[.int .i64 Y0, .int .i64 Y1] 3))
                have M7 : Two W1.heap.size W1 ((w5.alloc (.cells #[.int .i64 Y0, .int .i64 Y1] 3)).drew) _ a _ _ b _ := M6.under (below_drewN (Below.refl _ _) 1)
                have hput := two_putb (x := 1000 + (i : Int)) (c := 2) (A := some ⟨w5.heap.size, 0, none⟩) (n := 2) (l := [Y0, Y1]) M7 (WalkArith.wf_i64 (by omega)) ((news_int w5 [Y0, Y1] (by simp)).drew) (by show w5.heap.size + 1 ≤ (w5.alloc _).heap.size; simp) (by unfold maxLen; simp) (fun ad e hF => by
                  injection e with e
                  subst e
                  exact absurd (HT5.out.tb.lt _ hF) (Nat.lt_irrefl _)) (by rw [← hv1, HV.out.2]; exact ck_cut (by omega) (by omega) _) (by rw [List.length_append, rng_len, rng_len]; omega)
                have hput' : Hid (∀ e w', (e = Ending.returned (.tuple #[.bool (hasT (1000 + (i : Int)) (rng 0 V0 0 (min (i + 1) n0) ++ rng 1000 V1 0 (min i n1))), .int .i64 0]) ∧ ∃ F', Two W1.heap.size W1 w' F4 a (rng 0 V0 0 (min (i + 1) n0)) F' b (putT (1000 + (i : Int)) [Y0, Y1] (rng 0 V0 0 (min (i + 1) n0) ++ rng 1000 V1 0 (min i n1))) ∧ Turn F5 ((w5.alloc (.cells #[.int .i64 Y0, .int .i64 Y1] 3)).drew) F' w') → ∃ F', Two W1.heap.size W1 w' F4 a (rng 0 V0 0 (min (i + 1) n0)) F' b (rng 0 V0 0 (min (i + 1) n0) ++ rng 1000 V1 0 (min (i + 1) n1))) := Lib.hid (by
                  rintro e w' ⟨_, F', ht, _⟩
                  refine ⟨F', ?_⟩
                  rw [show min (i + 1) n1 = i + 1 by omega, rng_snoc (Nat.zero_le i), hv1, ← List.append_assoc]
                  rw [show min i n1 = i by omega, putT_end (fun p hp => by
                    rcases List.mem_append.1 hp with hp | hp
                    · obtain ⟨j, _, h2, rfl⟩ := rng_mem hp
                      show (0 : Int) + (j : Int) < 1000 + (i : Int)
                      omega
                    · obtain ⟨j, _, h2, rfl⟩ := rng_mem hp
                      show (1000 : Int) + (j : Int) < 1000 + (i : Int)
                      omega)] at ht
                  exact ht)
                clear M6 M7 hbw5 heb hel hv1
                go_wp2_with fail
                go_region_held3 (fun w' => w'.cell? (ae.add (i * 2)) = some (.int .i64 U0) ∧ w'.cell? ⟨(ae.add (i * 2)).block, (ae.add (i * 2)).off + 1, none⟩ = some (.int .i64 U1)) (first | exact ⟨y0, y1⟩ | exact HS8.out | go_keep) ((go_at_call 19; with_reducible refine hput.mono ?_; rintro e w8 ⟨rfl, hrest⟩; obtain ⟨F8, ht8⟩ := hput'.out _ _ ⟨rfl, hrest⟩; have HS8 := Lib.hid (HKP.out w8 (HB.out.1.trans (ht8.below.mono HB.out.1.size))); have HT8 := Lib.hid ht8; clear ht8 hrest))
                clear hput hput'
                go_wp2_with fail
                go_roundg (max n0 n1 - (i + 1))
                case rel => exact ⟨i + 1, _, _, by omega, Nat.le_refl _, by go_num, HT8⟩
                case measure => omega
              · have hiz1 : ¬ (i : Int) < (n1 : Int) := by omega
                go_wp2_with fail
                go_roundg (max n0 n1 - (i + 1))
                case rel => exact ⟨i + 1, _, _, by omega, Nat.le_refl _, by go_num, Lib.hid (by rw [show min (i + 1) n1 = min i n1 by omega]; exact HT5.out)⟩
                case measure => omega
          · have hiz : ¬ (i : Int) < (n0 : Int) := by omega
            have HT5 : Hid (Two W1.heap.size W1 wr Fa a (rng 0 V0 0 (min (i + 1) n0)) Fb b (rng 0 V0 0 (min (i + 1) n0) ++ rng 1000 V1 0 (min i n1))) := Lib.hid (by rw [show min (i + 1) n0 = min i n0 by omega]; exact HT.out)
            clear HT
            by_cases hi1 : i < n1
            · have hiz1 : (i : Int) < (n1 : Int) := by omega
              have hwr : IntKind.i64.wrap (1000 + (i : Int)) = 1000 + (i : Int) := by rw [IntKind.wrap_i64]; omega
              have hbw5 : Below w.heap.size w wr := HB.out.1.trans (HT5.out.below.mono HB.out.1.size)
              obtain ⟨ae, hE, heb, hel, y0, y1⟩ := (HR1.out.below hbw5).two_at hi1
              subst hE
              have HKP : Hid (∀ w' : World, Below w.heap.size w w' → w'.cell? (ae.add (i * 2)) = some (.int .i64 (l1.getD i (0, 0)).1) ∧ w'.cell? ⟨(ae.add (i * 2)).block, (ae.add (i * 2)).off + 1, none⟩ = some (.int .i64 (l1.getD i (0, 0)).2)) := Lib.hid (fun w' hw' => by
                obtain ⟨ae', e', _, _, q0, q1⟩ := (HR1.out.below hw').two_at hi1
                injection e' with e'
                subst e'
                exact ⟨q0, q1⟩)
              have hv1 : V1 i = cutP 256 (l1.getD i (0, 0)) := by rw [HV.out.2]
              have hb0 := and255 (l1.getD i (0, 0)).1
              have hb1 := and255 (l1.getD i (0, 0)).2
              unfold cutP at hv1
              generalize (l1.getD i (0, 0)).1 % 256 = Y0 at *
              generalize (l1.getD i (0, 0)).2 % 256 = Y1 at *
              generalize (l1.getD i (0, 0)).1 = U0 at *
              generalize (l1.getD i (0, 0)).2 = U1 at *
              have cl5 : (ae.add (i * 2)).block < wr.heap.size := lt_of_cell y0
              have M6 := HT5.out.under ((Below.refl _ wr).alloc (Nat.le_refl _) (.cells #[.int .i64 Y0, .int .i64 Y1] 3))
              have M7 : Two W1.heap.size W1 ((wr.alloc (.cells #[.int .i64 Y0, .int .i64 Y1] 3)).drew) _ a _ _ b _ := M6.under (below_drewN (Below.refl _ _) 1)
              have hput := two_putb (x := 1000 + (i : Int)) (c := 2) (A := some ⟨wr.heap.size, 0, none⟩) (n := 2) (l := [Y0, Y1]) M7 (WalkArith.wf_i64 (by omega)) ((news_int wr [Y0, Y1] (by simp)).drew) (by show wr.heap.size + 1 ≤ (wr.alloc _).heap.size; simp) (by unfold maxLen; simp) (fun ad e hF => by
                injection e with e
                subst e
                exact absurd (HT5.out.tb.lt _ hF) (Nat.lt_irrefl _)) (by rw [← hv1, HV.out.2]; exact ck_cut (by omega) (by omega) _) (by rw [List.length_append, rng_len, rng_len]; omega)
              have hput' : Hid (∀ e w', (e = Ending.returned (.tuple #[.bool (hasT (1000 + (i : Int)) (rng 0 V0 0 (min (i + 1) n0) ++ rng 1000 V1 0 (min i n1))), .int .i64 0]) ∧ ∃ F', Two W1.heap.size W1 w' Fa a (rng 0 V0 0 (min (i + 1) n0)) F' b (putT (1000 + (i : Int)) [Y0, Y1] (rng 0 V0 0 (min (i + 1) n0) ++ rng 1000 V1 0 (min i n1))) ∧ Turn Fb ((wr.alloc (.cells #[.int .i64 Y0, .int .i64 Y1] 3)).drew) F' w') → ∃ F', Two W1.heap.size W1 w' Fa a (rng 0 V0 0 (min (i + 1) n0)) F' b (rng 0 V0 0 (min (i + 1) n0) ++ rng 1000 V1 0 (min (i + 1) n1))) := Lib.hid (by
                rintro e w' ⟨_, F', ht, _⟩
                refine ⟨F', ?_⟩
                rw [show min (i + 1) n1 = i + 1 by omega, rng_snoc (Nat.zero_le i), hv1, ← List.append_assoc]
                rw [show min i n1 = i by omega, putT_end (fun p hp => by
                  rcases List.mem_append.1 hp with hp | hp
                  · obtain ⟨j, _, h2, rfl⟩ := rng_mem hp
                    show (0 : Int) + (j : Int) < 1000 + (i : Int)
                    omega
                  · obtain ⟨j, _, h2, rfl⟩ := rng_mem hp
                    show (1000 : Int) + (j : Int) < 1000 + (i : Int)
                    omega)] at ht
                exact ht)
              clear M6 M7 hbw5 heb hel hv1
              go_wp2_with fail
              go_region_held3 (fun w' => w'.cell? (ae.add (i * 2)) = some (.int .i64 U0) ∧ w'.cell? ⟨(ae.add (i * 2)).block, (ae.add (i * 2)).off + 1, none⟩ = some (.int .i64 U1)) (first | exact ⟨y0, y1⟩ | exact HS8.out | go_keep) ((go_at_call 19; with_reducible refine hput.mono ?_; rintro e w8 ⟨rfl, hrest⟩; obtain ⟨F8, ht8⟩ := hput'.out _ _ ⟨rfl, hrest⟩; have HS8 := Lib.hid (HKP.out w8 (HB.out.1.trans (ht8.below.mono HB.out.1.size))); have HT8 := Lib.hid ht8; clear ht8 hrest))
              clear hput hput'
              go_wp2_with fail
              go_roundg (max n0 n1 - (i + 1))
              case rel => exact ⟨i + 1, _, _, by omega, Nat.le_refl _, by go_num, HT8⟩
              case measure => omega
            · have hiz1 : ¬ (i : Int) < (n1 : Int) := by omega
              go_wp2_with fail
              go_roundg (max n0 n1 - (i + 1))
              case rel => exact ⟨i + 1, _, _, by omega, Nat.le_refl _, by go_num, Lib.hid (by rw [show min (i + 1) n1 = min i n1 by omega]; exact HT5.out)⟩
              case measure => omega
        · have hltz : ¬ (i : Int) < max (n0 : Int) (n1 : Int) := by omega
          have HT6 : Hid (Two W1.heap.size W1 wr Fa a (rng 0 V0 0 n0) Fb b (rng 0 V0 0 n0 ++ rng 1000 V1 0 n1)) := Lib.hid (by
            have := HT.out
            rwa [show min i n0 = n0 by omega, show min i n1 = n1 by omega] at this)
          clear HT
          go_wp2_with fail
          go_loopw [13] (fun vj wj => ∃ (j : Nat), j ≤ n1 ∧ vj = .int .i64 j ∧ Hid (Two W1.heap.size W1 wj Fa a (rng 0 V0 0 n0) Fb b (rng 0 V0 0 n0 ++ rng 1000 V1 j n1))) (fun vj _ => n1 - (intOf vj).toNat)
          case atStart => exact ⟨0, by omega, rfl, HT6⟩
          case round =>
            obtain ⟨j, hj, rfl, HJ⟩ := hrel
            clear HT6
            by_cases hjn : j < n1
            · have hjz : (j : Int) < (n1 : Int) := by omega
              have hd := two_dropb (x := 1000 + (j : Int)) HJ.out (WalkArith.wf_i64 (by omega))
              rw [rng_cons hjn, hasT_mid, delT_mid (fun p hp => by
                obtain ⟨q, _, h2, rfl⟩ := rng_mem hp
                show (0 : Int) + (q : Int) < 1000 + (j : Int)
                omega) (fun p hp => by
                obtain ⟨q, h1, h2, rfl⟩ := rng_mem hp
                show (1000 : Int) + (j : Int) < 1000 + (q : Int)
                omega)] at hd
              go_wp2_with fail
              refine hd.mono ?_
              rintro e w8 ⟨rfl, T8⟩
              have HT8 := Lib.hid T8
              clear T8 hd
              go_wp2_with fail
              go_roundw
              case rel => exact ⟨j + 1, by omega, by go_num, HT8⟩
              case measure => simp [intOf]; omega
            · have hjz : ¬ (j : Int) < (n1 : Int) := by omega
              have hjn1 : j = n1 := by omega
              have HT9 : Hid (Two W1.heap.size W1 wr Fa a (rng 0 V0 0 n0) Fb b (rng 0 V0 0 n0)) := Lib.hid (by
                have := HJ.out
                rwa [hjn1, rng_nil, List.append_nil] at this)
              have hTlen := rng_len 0 V0 0 n0
              clear HJ hjn1 hTlen
              generalize rng 0 V0 0 n0 = T at *
              have rw9 : Row wr w.heap.size 44 [.int .i64 x, .int .i64 y] := HB.out.2.2.keep (HT9.out.below.block _ (by have := HB.out.2.1; omega))
              have z0 := rw9.cell (j := 0) rfl
              have z1 := rw9.cell (j := 1) rfl
              have zl := rw9.lt
              have M9 := HT9.out.under ((Below.refl _ wr).alloc (Nat.le_refl _) (.cells #[.int .i64 X, .int .i64 Y] 3))
              have hv9 := news_int wr [X, Y] (by simp)
              have htp := t_top M9.ta (c := 2) (C := wr.heap.size + 1) (n := 2) (A := some ⟨wr.heap.size, 0, none⟩) (vec := [X, Y]) hv9 (by simp) (by unfold maxLen; omega) 1099511627776 HCK.out (k := 10) (by omega) (by omega)
              have HM9 := Lib.hid (And.intro M9 hv9)
              clear rw9 M9 hv9 HT9
              go_wp2_with fail
              refine htp.mono ?_
              rintro e w10 ⟨A10, m10, rfl, hR10, hm10, hb10⟩
              have M10 := HM9.out.1.under hb10
              have hv10 : Reads w10 (wr.heap.size + 1) 1 (some ⟨wr.heap.size, 0, none⟩) 2 (ints [X, Y]) := HM9.out.2.below (hb10.mono (by simp))
              have htp2 := t_top M10.tb (c := 2) hv10 (by have := hb10.size; simp at this; omega) (by unfold maxLen; omega) 1099511627776 HCK.out (k := 10) (by omega) (by omega)
              have HM10 := Lib.hid (And.intro M10 (And.intro hR10 hm10))
              clear M10 hv10 htp hR10 hm10 HM9 hb10
              go_wp2_with fail
              refine htp2.mono ?_
              rintro e w11 ⟨A11, m11, rfl, hR11, hm11, hb11⟩
              have M11 := HM10.out.1.under hb11
              have hR10' := HM10.out.2.1.below hb11
              generalize topH T [X, Y] 10 1099511627776 = H at *
              have hsm := same_any A10 A11 m10 m11 m10 m11 _ _ H H w11 hR10' hR11 (by have := HM10.out.2.2; unfold maxLen; omega) (by unfold maxLen; omega)
              rw [decide_eq_true rfl] at hsm
              have HM11 := Lib.hid M11
              clear M11 hR10' htp2 hR11 hb11 HM10
              go_wp2_with fail
              refine hsm.mono ?_
              rintro e w12 ⟨rfl, q12, rfl⟩
              have M12 := HM11.out.under (below_drewN (Below.refl _ w11) q12)
              have hpa := t_pts M12.ta
              have HM12 := Lib.hid M12
              generalize w11.drewN q12 = w12 at *
              clear M12 hsm HM11
              go_wp2_with fail
              refine hpa.mono ?_
              rintro e w13 ⟨A13, m13, c13, L13, rfl, P13, hm13, hL13, hb13⟩
              have M13 := HM12.out.under hb13
              have hpb := t_pts M13.tb
              have HM13 := Lib.hid (And.intro M13 (And.intro P13 hL13))
              clear M13 P13 hL13 hb13 hpa HM12
              go_wp2_with fail
              refine hpb.mono ?_
              rintro e w14 ⟨A14, m14, c14, L14, rfl, P14, hm14, hL14, hb14⟩
              have M14 := HM13.out.1.under hb14
              have hsp := q8same_any A13 A14 m13 m14 c13 c14 _ _ L13 L14 w14 (HM13.out.2.1.below hb14) P14 hb14.size (Nat.le_refl _) (by omega) (HM13.out.2.2.trans hL14.symm)
              have HM14 := Lib.hid M14
              clear M14 P14 hL14 hb14 hpb HM13
              go_wp2_with fail
              refine hsp.mono ?_
              rintro e w15 ⟨rfl, q15, rfl⟩
              go_wp2_with fail
              refine (HAW.out _).mono ?_
              rintro e w16 ⟨rfl, hb16⟩
              go_wp2_with fail
              go_ret
              exact ⟨rfl, HB.out.1.trans ((HM14.out.under ((below_drewN (Below.refl _ w14) q15).trans hb16)).below.mono HB.out.1.size)⟩
end Go.Proofs.Ytkgapieikgniiaa
