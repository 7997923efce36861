/- VptreeSelf: from each point's own vector that point is found. Conditions: the slice of pairs reads as a list. -/
import Derived.Test.YtkgapieikgniiaaVTwo
import Derived.Test.YtkgapieikgniiaaVBld
set_option linter.unusedVariables false
set_option linter.unusedSimpArgs false
namespace Go.Proofs.Ytkgapieikgniiaa
open Go Go.RowKit Go.Maps
theorem mine_put {b0 : Nat} {w0 w : World} {F : Nat → Prop} {t : Nat} {T : List Pnt} {dim : Nat} (h : Mine b0 w0 w F t dim T) {x : Int} {A : Option Addr} {n c C : Nat} {l : List Int} (hx : (Lit.int .i64 x).wf = true) (hR : Reads w C 1 A n (ints l)) (hC : C ≤ w.heap.size) (hn : n ≤ maxLen) (hA : ∀ ad, A = some ad → ¬ F ad.block) (hk : ck l dim = 0) (hf : T.length < 512) :
    Calls Try.prog 19 #[.pointer (some ⟨t, 0, none⟩), .agg #[.int .i64 x, .slice A n c]] w fun e w' => e = .returned (.tuple #[.bool (hasT x T), .int .i64 0]) ∧ ∃ F', Mine b0 w0 w' F' t dim (putT x l T) :=
  (t_put h.tree hx hR hC hn hA hk (.inr hf)).mono fun e w' ⟨he, F', ht, hT⟩ => ⟨he, F', h.turn ht hT⟩
theorem mine_build {b0 : Nat} {w0 w : World} {F : Nat → Prop} {t : Nat} {T : List Pnt} {dim : Nat} (h : Mine b0 w0 w F t dim T) :
    Calls Try.prog 22 #[.pointer (some ⟨t, 0, none⟩)] w fun e w' => e = .returned (.int .i64 0) ∧ ∃ F', Mine b0 w0 w' F' t dim T :=
  (t_build h.tree).mono fun e w' ⟨he, F', ht, hT⟩ => ⟨he, F', h.turn ht hT⟩
theorem srt_head {S : List Hit} {x : Hit} (hx : x ∈ S) (h : ∀ y ∈ S, hlt y x = false) : (srtH S).take 1 = [x] := by
  have ho := srtH_ord S
  have hp := srtH_self S
  cases hs : srtH S with
  | nil =>
    have := hp.mem_iff.2 hx
    rw [hs] at this
    simp at this
  | cons z r =>
    rw [hs] at ho hp
    have hz : z = x := by
      rcases List.mem_cons.1 (hp.mem_iff.2 hx) with e | e
      · exact e.symm
      · have h1 := (List.pairwise_cons.1 ho).1 x e
        exact hlt_total (h z (hp.mem_iff.1 (List.mem_cons_self ..))) h1
    rw [hz]
    rfl
theorem top_self {V : Nat → List Int} {n i f : Nat} (hV : ∀ j, (V j).length = 2) (hi : i < n) (hf : f ≤ i) (he : V f = V i) (hm : ∀ j, j < i → V j = V i → f ≤ j) : topH (rng 0 V 0 n) (V i) 1 0 = [((f : Int), 0)] := by
  unfold topH bst
  refine srt_head ?_ (fun y hy => ?_)
  · unfold nearH
    refine List.mem_filter.2 ⟨List.mem_map.2 ⟨(0 + (f : Int), V f), List.mem_map.2 ⟨f, by rw [List.mem_range'_1]; omega, rfl⟩, ?_⟩, by simp⟩
    rw [he, far_self]
    simp
  · unfold nearH at hy
    obtain ⟨h1, h2⟩ := List.mem_filter.1 hy
    obtain ⟨p, hp, rfl⟩ := List.mem_map.1 h1
    obtain ⟨j, _, hj, rfl⟩ := rng_mem hp
    have h0 : far (V j) (V i) ≤ 0 := of_decide_eq_true h2
    have h3 := far_nonneg (V j) (V i)
    have h4 : V j = V i := far_zero _ _ (by rw [hV, hV]) (by omega)
    have h5 : f ≤ j := by
      rcases Nat.lt_or_ge j i with h | h
      · exact hm j h h4
      · omega
    rw [Bool.eq_false_iff, Ne, hlt_iff]
    rintro (h | ⟨_, h⟩)
    · have h : far (V j) (V i) < 0 := h
      omega
    · have h : (0 : Int) + (j : Int) < (f : Int) := h
      omega
set_option maxHeartbeats 8000000 in
set_option maxRecDepth 100000 in
theorem vptreeSelf_walk (A0 : Option Addr) (n0 c0 : Nat) (l0 : List (Int × Int)) (bb : Bool) (w : World) (hR0 : Reads w w.heap.size 2 A0 n0 (twos l0)) (hm0 : n0 ≤ maxLen) :
    Calls Try.prog 9 #[.slice A0 n0 c0, .bool bb] w (Gives (.bool true) w) := by
  have HAW := Lib.hid awake_any
  have HR0 := Lib.hid hR0
  unfold maxLen at hm0
  clear hR0
  have hnew := vnew_any 2 w (by omega) (by omega)
  go_enter Try.func9, Try.ntmps9
  go_wp2_with fail
  refine hnew.mono ?_
  rintro e w2 ⟨F2, t, rfl, ht2, hF2, hb2⟩
  have HT2 := Lib.hid (Mine.new (Below.refl _ w) (Nat.le_refl _) ht2 hF2 hb2)
  have ea := tpeql_none t
  clear ht2 hF2 hb2 hnew
  by_cases h60 : 60 < n0
  · have hz : (60 : Int) < (n0 : Int) := by omega
    go_wp2_with fail
    refine (HAW.out _).mono ?_
    rintro e w4 ⟨rfl, hb4⟩
    go_wp2_with fail
    go_ret
    exact ⟨rfl, (HT2.out.under hb4).below⟩
  · have hz : ¬ (60 : Int) < (n0 : Int) := by omega
    obtain ⟨V0, hV0⟩ : ∃ V0 : Nat → List Int, V0 = fun j => cutP 256 (l0.getD j (0, 0)) := ⟨_, rfl⟩
    have HV := Lib.hid hV0
    clear hV0
    go_wp2_with fail
    go_loopw [7] (fun vi wr => ∃ (i : Nat) (F : Nat → Prop), i ≤ n0 ∧ vi = .int .i64 i ∧ Hid (Mine w.heap.size w wr F t 2 (rng 0 V0 0 i))) (fun vi _ => n0 - (intOf vi).toNat)
    case atStart => exact ⟨0, F2, by omega, rfl, by simpa [rng_nil] using HT2⟩
    case round =>
      obtain ⟨i, F, hi, rfl, HT⟩ := hrel
      clear HT2
      by_cases hlt : i < n0
      · have hltz : (i : Int) < (n0 : Int) := by omega
        obtain ⟨ae, hE, heb, hel, y0, y1⟩ := (HR0.out.below HT.out.below).two_at hlt
        subst hE
        have HKP : Hid (∀ w' : World, Below w.heap.size w w' → w'.cell? (ae.add (i * 2)) = some (.int .i64 (l0.getD i (0, 0)).1) ∧ w'.cell? ⟨(ae.add (i * 2)).block, (ae.add (i * 2)).off + 1, none⟩ = some (.int .i64 (l0.getD i (0, 0)).2)) := Lib.hid (fun w' hw' => by
          obtain ⟨ae', e', _, _, q0, q1⟩ := (HR0.out.below hw').two_at hlt
          injection e' with e'
          subst e'
          exact ⟨q0, q1⟩)
        have hv1 : V0 i = cutP 256 (l0.getD i (0, 0)) := by rw [HV.out]
        have hb0 := and255 (l0.getD i (0, 0)).1
        have hb1 := and255 (l0.getD i (0, 0)).2
        unfold cutP at hv1
        generalize (l0.getD i (0, 0)).1 % 256 = Y0 at *
        generalize (l0.getD i (0, 0)).2 % 256 = Y1 at *
        generalize (l0.getD i (0, 0)).1 = U0 at *
        generalize (l0.getD i (0, 0)).2 = U1 at *
        have cl5 : (ae.add (i * 2)).block < wr.heap.size := lt_of_cell y0
        have M6 := HT.out.under ((Below.refl _ wr).alloc (Nat.le_refl _) (.cells #[.int .i64 Y0, .int .i64 Y1] 3))
        have M7 : Mine w.heap.size w ((wr.alloc (.cells #[.int .i64 Y0, .int .i64 Y1] 3)).drew) _ t 2 _ := M6.under (below_drewN (Below.refl _ _) 1)
        have hput := mine_put (x := (i : Int)) (c := 2) (A := some ⟨wr.heap.size, 0, none⟩) (n := 2) (l := [Y0, Y1]) M7 (WalkArith.wf_i64 (by omega)) ((news_int wr [Y0, Y1] (by simp)).drew) (by show wr.heap.size + 1 ≤ (wr.alloc _).heap.size; simp) (by unfold maxLen; simp) (fun ad e hF => by
          injection e with e
          subst e
          exact absurd (HT.out.tree.lt _ hF) (Nat.lt_irrefl _)) (by rw [← hv1, HV.out]; exact ck_cut (by omega) (by omega) _) (by rw [rng_len]; omega)
        have hput' : Hid (∀ w' F', Mine w.heap.size w w' F' t 2 (putT (i : Int) [Y0, Y1] (rng 0 V0 0 i)) → Mine w.heap.size w w' F' t 2 (rng 0 V0 0 (i + 1))) := Lib.hid (by
          intro w' F' ht
          rw [putT_end (fun p hp => by
            obtain ⟨j, _, h2, rfl⟩ := rng_mem hp
            show (0 : Int) + (j : Int) < (i : Int)
            omega)] at ht
          rw [rng_snoc (Nat.zero_le i), hv1, Int.zero_add]
          exact ht)
        clear M6 M7 heb hel hv1
        go_wp2_with fail
        go_region_held3 (fun w' => w'.cell? (ae.add (i * 2)) = some (.int .i64 U0) ∧ w'.cell? ⟨(ae.add (i * 2)).block, (ae.add (i * 2)).off + 1, none⟩ = some (.int .i64 U1)) (first | exact ⟨y0, y1⟩ | exact HS8.out | go_keep) ((go_at_call 19; with_reducible refine hput.mono ?_; rintro e w8 ⟨rfl, F8, ht8⟩; have HT8 := Lib.hid (hput'.out _ _ ht8); have HS8 := Lib.hid (HKP.out w8 HT8.out.below); clear ht8))
        clear hput hput'
        go_wp2_with fail
        go_roundw
        case rel => exact ⟨i + 1, _, by omega, by go_num, HT8⟩
        case measure => simp [intOf]; omega
      · have hltz : ¬ (i : Int) < (n0 : Int) := by omega
        have HT9 : Hid (Mine w.heap.size w wr F t 2 (rng 0 V0 0 n0)) := Lib.hid (by
          have := HT.out
          rwa [show i = n0 by omega] at this)
        clear HT
        cases bb with
        | true =>
          have hbl := mine_build HT9.out
          go_wp2_with fail
          refine hbl.mono ?_
          rintro e w10 ⟨rfl, F10, M10⟩
          have HT10 := Lib.hid M10
          clear M10 hbl HT9
          go_wp2_with fail
          go_loopw [8] (fun vi wx => ∃ (i : Nat), i ≤ n0 ∧ vi = .int .i64 i ∧ Hid (Mine w.heap.size w wx F10 t 2 (rng 0 V0 0 n0))) (fun vi _ => n0 - (intOf vi).toNat)
          case atStart => exact ⟨0, by omega, rfl, HT10⟩
          case round =>
            obtain ⟨i, hi, rfl, HX⟩ := hrel
            clear HT10
            by_cases hlt : i < n0
            · have hltz : (i : Int) < (n0 : Int) := by omega
              obtain ⟨wx, hwx⟩ : ∃ wx, wx = wr := ⟨_, rfl⟩
              rw [← hwx] at HX ⊢
              clear hwx
              go_wp2_with fail
              go_loopw [9, 10] (fun vf vk wy => ∃ (f k q : Nat), vf = .int .i64 f ∧ vk = .int .i64 k ∧ wy = wx.drewN q ∧ k ≤ i ∧ f ≤ i ∧ Hid (V0 f = V0 i ∧ (∀ j, j < k → V0 j = V0 i → f ≤ j) ∧ (f = i ∨ f < k))) (fun _ vk _ => i - (intOf vk).toNat)
              case atStart => exact ⟨i, 0, 0, rfl, rfl, rfl, by omega, by omega, Lib.hid ⟨rfl, fun j hj => absurd hj (by omega), .inl rfl⟩⟩
              case round =>
                obtain ⟨f, k, q, rfl, rfl, rfl, hk, hf, HF⟩ := hrel
                have hbx : Below w.heap.size w wx := HX.out.below
                obtain ⟨ad, hA, hab, hil, x0, x1⟩ := (HR0.out.below hbx).two_at hlt
                subst hA
                have clx : (ad.add (i * 2)).block < wx.heap.size := lt_of_cell x0
                by_cases hki : k < i
                · have hkz : (k : Int) < (i : Int) := by omega
                  have hkn : (k : Int) < (n0 : Int) := by omega
                  obtain ⟨ad', hA', hab', hkl, y0, y1⟩ := (HR0.out.below hbx).two_at (k := k) (by omega)
                  injection hA' with hA'
                  subst hA'
                  have cly : (ad.add (k * 2)).block < wx.heap.size := lt_of_cell y0
                  have a0 := and255 (l0.getD i (0, 0)).1
                  have a1 := and255 (l0.getD i (0, 0)).2
                  have b0 := and255 (l0.getD k (0, 0)).1
                  have b1 := and255 (l0.getD k (0, 0)).2
                  have hvi : V0 i = cutP 256 (l0.getD i (0, 0)) := by rw [HV.out]
                  have hvk : V0 k = cutP 256 (l0.getD k (0, 0)) := by rw [HV.out]
                  unfold cutP at hvi hvk
                  generalize (l0.getD i (0, 0)).1 % 256 = X0 at *
                  generalize (l0.getD i (0, 0)).2 % 256 = X1 at *
                  generalize (l0.getD k (0, 0)).1 % 256 = Y0 at *
                  generalize (l0.getD k (0, 0)).2 % 256 = Y1 at *
                  generalize (l0.getD i (0, 0)).1 = Z0 at *
                  generalize (l0.getD i (0, 0)).2 = Z1 at *
                  generalize (l0.getD k (0, 0)).1 = U0 at *
                  generalize (l0.getD k (0, 0)).2 = U1 at *
                  have HVV := Lib.hid (And.intro hvi hvk)
                  clear hvi hvk hab hab' hil hkl hbx
                  by_cases e0 : Y0 = X0
                  · subst e0
                    have t0 : (Y0 == Y0) = true := by simp
                    by_cases e1 : Y1 = X1
                    · subst e1
                      have t1 : (Y1 == Y1) = true := by simp
                      have HN := Lib.hid (show V0 k = V0 i from by rw [HVV.out.1, HVV.out.2])
                      by_cases hfk : f < k
                      · have hfz : (f : Int) < (k : Int) := by omega
                        have hfz2 : ¬ (k : Int) < (f : Int) := by omega
                        go_wp2_with fail
                        go_quiet (fail)
                        go_wp2_with fail
                        go_roundw
                        case rel => exact ⟨f, k + 1, _, by go_num, by go_num, by first | rfl | exact World.drewN_drewN .., by omega, hf, Lib.hid ⟨HF.out.1, fun j hj he => by
                          rcases Nat.lt_or_ge j k with h | h
                          · exact HF.out.2.1 j h he
                          · omega, .inr (by omega)⟩⟩
                        case measure => simp [intOf]; omega
                      · have hfi : f = i := HF.out.2.2.resolve_right hfk
                        have hfz : (k : Int) < (f : Int) := by omega
                        have hfz2 : ¬ (f : Int) < (k : Int) := by omega
                        have HFI := Lib.hid hfi
                        clear hfi
                        go_wp2_with fail
                        go_quiet (fail)
                        go_wp2_with fail
                        go_roundw
                        case rel => exact ⟨k, k + 1, _, by go_num, by go_num, by first | rfl | exact World.drewN_drewN .., by omega, by omega, Lib.hid ⟨HN.out, fun j hj he => by
                          rcases Nat.lt_or_ge j k with h | h
                          · have := HF.out.2.1 j h he
                            have := HFI.out
                            omega
                          · omega, .inr (by omega)⟩⟩
                        case measure => simp [intOf]; omega
                    · have t1 : (Y1 == X1) = false := by simp [e1]
                      have HN := Lib.hid (show V0 k ≠ V0 i from by rw [HVV.out.1, HVV.out.2]; intro e; injection e with _ e; injection e with e; exact e1 e)
                      go_wp2_with fail
                      go_quiet (fail)
                      go_wp2_with fail
                      go_roundw
                      case rel => exact ⟨f, k + 1, _, by go_num, by go_num, by first | rfl | exact World.drewN_drewN .., by omega, hf, Lib.hid ⟨HF.out.1, fun j hj he => by
                        rcases Nat.lt_or_ge j k with h | h
                        · exact HF.out.2.1 j h he
                        · exact absurd (by rw [← he, show j = k by omega]) HN.out, HF.out.2.2.imp id (by omega)⟩⟩
                      case measure => simp [intOf]; omega
                  · have t0 : (Y0 == X0) = false := by simp [e0]
                    have HN := Lib.hid (show V0 k ≠ V0 i from by rw [HVV.out.1, HVV.out.2]; intro e; injection e with e _; exact e0 e)
                    go_wp2_with fail
                    go_quiet (fail)
                    go_wp2_with fail
                    go_roundw
                    case rel => exact ⟨f, k + 1, _, by go_num, by go_num, by first | rfl | exact World.drewN_drewN .., by omega, hf, Lib.hid ⟨HF.out.1, fun j hj he => by
                      rcases Nat.lt_or_ge j k with h | h
                      · exact HF.out.2.1 j h he
                      · exact absurd (by rw [← he, show j = k by omega]) HN.out, HF.out.2.2.imp id (by omega)⟩⟩
                    case measure => simp [intOf]; omega
                · have hkz : ¬ (k : Int) < (i : Int) := by omega
                  have HFX := Lib.hid (show V0 f = V0 i ∧ (∀ j, j < i → V0 j = V0 i → f ≤ j) from ⟨HF.out.1, by
                    have := HF.out.2.1
                    rwa [show k = i by omega] at this⟩)
                  have HKP : Hid (∀ w' : World, Below w.heap.size w w' → w'.cell? (ad.add (i * 2)) = some (.int .i64 (l0.getD i (0, 0)).1) ∧ w'.cell? ⟨(ad.add (i * 2)).block, (ad.add (i * 2)).off + 1, none⟩ = some (.int .i64 (l0.getD i (0, 0)).2)) := Lib.hid (fun w' hw' => by
                    obtain ⟨ae', e', _, _, q0, q1⟩ := (HR0.out.below hw').two_at hlt
                    injection e' with e'
                    subst e'
                    exact ⟨q0, q1⟩)
                  have a0 := and255 (l0.getD i (0, 0)).1
                  have a1 := and255 (l0.getD i (0, 0)).2
                  have hvi : V0 i = cutP 256 (l0.getD i (0, 0)) := by rw [HV.out]
                  have HCK : Hid (ck (V0 i) 2 = 0) := Lib.hid (by rw [HV.out]; exact ck_cut (by omega) (by omega) _)
                  have HTS := Lib.hid (top_self (n := n0) (fun j => by rw [HV.out]; rfl) hlt hf HFX.out.1 HFX.out.2)
                  unfold cutP at hvi
                  generalize (l0.getD i (0, 0)).1 % 256 = X0 at *
                  generalize (l0.getD i (0, 0)).2 % 256 = X1 at *
                  generalize (l0.getD i (0, 0)).1 = Z0 at *
                  generalize (l0.getD i (0, 0)).2 = Z1 at *
                  have HXq := Lib.hid (HX.out.drewN q)
                  generalize wx.drewN q = wz at *
                  clear x0 x1 clx
                  obtain ⟨x0, x1⟩ := HKP.out wz HXq.out.below
                  have clx : (ad.add (i * 2)).block < wz.heap.size := lt_of_cell x0
                  have M6 := HXq.out.under ((Below.refl _ wz).alloc (Nat.le_refl _) (.cells #[.int .i64 X0, .int .i64 X1] 3))
                  have M7 : Mine w.heap.size w ((wz.alloc (.cells #[.int .i64 X0, .int .i64 X1] 3)).drew) _ t 2 _ := M6.under (below_drewN (Below.refl _ _) 1)
                  have htp := t_top M7.tree (c := 2) (A := some ⟨wz.heap.size, 0, none⟩) (n := 2) (vec := [X0, X1]) ((news_int wz [X0, X1] (by simp)).drew) (by show wz.heap.size + 1 ≤ (wz.alloc _).heap.size; simp) (by unfold maxLen; omega) 0 (by rw [← hvi]; exact HCK.out) (k := 1) (by omega) (by omega)
                  rw [show ((1 : Nat) : Int) = 1 from rfl] at htp
                  have HM7 := Lib.hid M7
                  have HVI := Lib.hid hvi
                  clear M6 M7 hab hil hbx hvi hk hf hki
                  go_wp2_with fail
                  go_region_held3 (fun w' => w'.cell? (ad.add (i * 2)) = some (.int .i64 Z0) ∧ w'.cell? ⟨(ad.add (i * 2)).block, (ad.add (i * 2)).off + 1, none⟩ = some (.int .i64 Z1)) (first | exact ⟨x0, x1⟩ | exact HS8.out | go_keep) ((go_at_call 21; with_reducible refine htp.mono ?_; intro e w8 hpost; unfold TopPost at hpost; obtain ⟨A8, m8, rfl, hR8, hm8, hb8⟩ := hpost; have HM8 := Lib.hid (HM7.out.under hb8); have HR8 := Lib.hid hR8; have HS8 := Lib.hid (HKP.out w8 HM8.out.below); clear hR8))
                  clear htp
                  have hR8 := HR8.out
                  rw [← HVI.out, HTS.out] at hR8
                  have hsm := same_any A8 (some ⟨w8.heap.size, 0, none⟩) m8 1 m8 1 w8.heap.size (w8.heap.size + 1) [((f : Int), 0)] [((f : Int), 0)] (w8.alloc (.cells #[.int .i64 f, .int .i64 0] 57)) (hR8.alloc (Nat.le_refl _) _) (news_hit w8 [((f : Int), 0)] (by simp)) (by unfold maxLen; omega) (by unfold maxLen; omega)
                  rw [decide_eq_true rfl] at hsm
                  have HM9 := Lib.hid (HM8.out.under ((Below.refl _ w8).alloc (Nat.le_refl _) (.cells #[.int .i64 f, .int .i64 0] 57)))
                  clear hR8 hb8
                  go_wp2_with fail
                  refine hsm.mono ?_
                  rintro e w9 ⟨rfl, q9, rfl⟩
                  have HM10 := Lib.hid (HM9.out.drewN q9)
                  go_wp2_with fail
                  go_roundw
                  case rel => exact ⟨i + 1, by omega, by go_num, HM10⟩
                  case measure => simp [intOf]; omega
            · have hltz : ¬ (i : Int) < (n0 : Int) := by omega
              go_wp2_with fail
              refine (HAW.out _).mono ?_
              rintro e w12 ⟨rfl, hb12⟩
              go_wp2_with fail
              go_ret
              exact ⟨rfl, (HX.out.under hb12).below⟩
        | false =>
          go_wp2_with fail
          go_loopw [8] (fun vi wx => ∃ (i : Nat), i ≤ n0 ∧ vi = .int .i64 i ∧ Hid (Mine w.heap.size w wx F t 2 (rng 0 V0 0 n0))) (fun vi _ => n0 - (intOf vi).toNat)
          case atStart => exact ⟨0, by omega, rfl, HT9⟩
          case round =>
            obtain ⟨i, hi, rfl, HX⟩ := hrel
            clear HT9
            by_cases hlt : i < n0
            · have hltz : (i : Int) < (n0 : Int) := by omega
              obtain ⟨wx, hwx⟩ : ∃ wx, wx = wr := ⟨_, rfl⟩
              rw [← hwx] at HX ⊢
              clear hwx
              go_wp2_with fail
              go_loopw [9, 10] (fun vf vk wy => ∃ (f k q : Nat), vf = .int .i64 f ∧ vk = .int .i64 k ∧ wy = wx.drewN q ∧ k ≤ i ∧ f ≤ i ∧ Hid (V0 f = V0 i ∧ (∀ j, j < k → V0 j = V0 i → f ≤ j) ∧ (f = i ∨ f < k))) (fun _ vk _ => i - (intOf vk).toNat)
              case atStart => exact ⟨i, 0, 0, rfl, rfl, rfl, by omega, by omega, Lib.hid ⟨rfl, fun j hj => absurd hj (by omega), .inl rfl⟩⟩
              case round =>
                obtain ⟨f, k, q, rfl, rfl, rfl, hk, hf, HF⟩ := hrel
                have hbx : Below w.heap.size w wx := HX.out.below
                obtain ⟨ad, hA, hab, hil, x0, x1⟩ := (HR0.out.below hbx).two_at hlt
                subst hA
                have clx : (ad.add (i * 2)).block < wx.heap.size := lt_of_cell x0
                by_cases hki : k < i
                · have hkz : (k : Int) < (i : Int) := by omega
                  have hkn : (k : Int) < (n0 : Int) := by omega
                  obtain ⟨ad', hA', hab', hkl, y0, y1⟩ := (HR0.out.below hbx).two_at (k := k) (by omega)
                  injection hA' with hA'
                  subst hA'
                  have cly : (ad.add (k * 2)).block < wx.heap.size := lt_of_cell y0
                  have a0 := and255 (l0.getD i (0, 0)).1
                  have a1 := and255 (l0.getD i (0, 0)).2
                  have b0 := and255 (l0.getD k (0, 0)).1
                  have b1 := and255 (l0.getD k (0, 0)).2
                  have hvi : V0 i = cutP 256 (l0.getD i (0, 0)) := by rw [HV.out]
                  have hvk : V0 k = cutP 256 (l0.getD k (0, 0)) := by rw [HV.out]
                  unfold cutP at hvi hvk
                  generalize (l0.getD i (0, 0)).1 % 256 = X0 at *
                  generalize (l0.getD i (0, 0)).2 % 256 = X1 at *
                  generalize (l0.getD k (0, 0)).1 % 256 = Y0 at *
                  generalize (l0.getD k (0, 0)).2 % 256 = Y1 at *
                  generalize (l0.getD i (0, 0)).1 = Z0 at *
                  generalize (l0.getD i (0, 0)).2 = Z1 at *
                  generalize (l0.getD k (0, 0)).1 = U0 at *
                  generalize (l0.getD k (0, 0)).2 = U1 at *
                  have HVV := Lib.hid (And.intro hvi hvk)
                  clear hvi hvk hab hab' hil hkl hbx
                  by_cases e0 : Y0 = X0
                  · subst e0
                    have t0 : (Y0 == Y0) = true := by simp
                    by_cases e1 : Y1 = X1
                    · subst e1
                      have t1 : (Y1 == Y1) = true := by simp
                      have HN := Lib.hid (show V0 k = V0 i from by rw [HVV.out.1, HVV.out.2])
                      by_cases hfk : f < k
                      · have hfz : (f : Int) < (k : Int) := by omega
                        have hfz2 : ¬ (k : Int) < (f : Int) := by omega
                        go_wp2_with fail
                        go_quiet (fail)
                        go_wp2_with fail
                        go_roundw
                        case rel => exact ⟨f, k + 1, _, by go_num, by go_num, by first | rfl | exact World.drewN_drewN .., by omega, hf, Lib.hid ⟨HF.out.1, fun j hj he => by
                          rcases Nat.lt_or_ge j k with h | h
                          · exact HF.out.2.1 j h he
                          · omega, .inr (by omega)⟩⟩
                        case measure => simp [intOf]; omega
                      · have hfi : f = i := HF.out.2.2.resolve_right hfk
                        have hfz : (k : Int) < (f : Int) := by omega
                        have hfz2 : ¬ (f : Int) < (k : Int) := by omega
                        have HFI := Lib.hid hfi
                        clear hfi
                        go_wp2_with fail
                        go_quiet (fail)
                        go_wp2_with fail
                        go_roundw
                        case rel => exact ⟨k, k + 1, _, by go_num, by go_num, by first | rfl | exact World.drewN_drewN .., by omega, by omega, Lib.hid ⟨HN.out, fun j hj he => by
                          rcases Nat.lt_or_ge j k with h | h
                          · have := HF.out.2.1 j h he
                            have := HFI.out
                            omega
                          · omega, .inr (by omega)⟩⟩
                        case measure => simp [intOf]; omega
                    · have t1 : (Y1 == X1) = false := by simp [e1]
                      have HN := Lib.hid (show V0 k ≠ V0 i from by rw [HVV.out.1, HVV.out.2]; intro e; injection e with _ e; injection e with e; exact e1 e)
                      go_wp2_with fail
                      go_quiet (fail)
                      go_wp2_with fail
                      go_roundw
                      case rel => exact ⟨f, k + 1, _, by go_num, by go_num, by first | rfl | exact World.drewN_drewN .., by omega, hf, Lib.hid ⟨HF.out.1, fun j hj he => by
                        rcases Nat.lt_or_ge j k with h | h
                        · exact HF.out.2.1 j h he
                        · exact absurd (by rw [← he, show j = k by omega]) HN.out, HF.out.2.2.imp id (by omega)⟩⟩
                      case measure => simp [intOf]; omega
                  · have t0 : (Y0 == X0) = false := by simp [e0]
                    have HN := Lib.hid (show V0 k ≠ V0 i from by rw [HVV.out.1, HVV.out.2]; intro e; injection e with e _; exact e0 e)
                    go_wp2_with fail
                    go_quiet (fail)
                    go_wp2_with fail
                    go_roundw
                    case rel => exact ⟨f, k + 1, _, by go_num, by go_num, by first | rfl | exact World.drewN_drewN .., by omega, hf, Lib.hid ⟨HF.out.1, fun j hj he => by
                      rcases Nat.lt_or_ge j k with h | h
                      · exact HF.out.2.1 j h he
                      · exact absurd (by rw [← he, show j = k by omega]) HN.out, HF.out.2.2.imp id (by omega)⟩⟩
                    case measure => simp [intOf]; omega
                · have hkz : ¬ (k : Int) < (i : Int) := by omega
                  have HFX := Lib.hid (show V0 f = V0 i ∧ (∀ j, j < i → V0 j = V0 i → f ≤ j) from ⟨HF.out.1, by
                    have := HF.out.2.1
                    rwa [show k = i by omega] at this⟩)
                  have HKP : Hid (∀ w' : World, Below w.heap.size w w' → w'.cell? (ad.add (i * 2)) = some (.int .i64 (l0.getD i (0, 0)).1) ∧ w'.cell? ⟨(ad.add (i * 2)).block, (ad.add (i * 2)).off + 1, none⟩ = some (.int .i64 (l0.getD i (0, 0)).2)) := Lib.hid (fun w' hw' => by
                    obtain ⟨ae', e', _, _, q0, q1⟩ := (HR0.out.below hw').two_at hlt
                    injection e' with e'
                    subst e'
                    exact ⟨q0, q1⟩)
                  have a0 := and255 (l0.getD i (0, 0)).1
                  have a1 := and255 (l0.getD i (0, 0)).2
                  have hvi : V0 i = cutP 256 (l0.getD i (0, 0)) := by rw [HV.out]
                  have HCK : Hid (ck (V0 i) 2 = 0) := Lib.hid (by rw [HV.out]; exact ck_cut (by omega) (by omega) _)
                  have HTS := Lib.hid (top_self (n := n0) (fun j => by rw [HV.out]; rfl) hlt hf HFX.out.1 HFX.out.2)
                  unfold cutP at hvi
                  generalize (l0.getD i (0, 0)).1 % 256 = X0 at *
                  generalize (l0.getD i (0, 0)).2 % 256 = X1 at *
                  generalize (l0.getD i (0, 0)).1 = Z0 at *
                  generalize (l0.getD i (0, 0)).2 = Z1 at *
                  have HXq := Lib.hid (HX.out.drewN q)
                  generalize wx.drewN q = wz at *
                  clear x0 x1 clx
                  obtain ⟨x0, x1⟩ := HKP.out wz HXq.out.below
                  have clx : (ad.add (i * 2)).block < wz.heap.size := lt_of_cell x0
                  have M6 := HXq.out.under ((Below.refl _ wz).alloc (Nat.le_refl _) (.cells #[.int .i64 X0, .int .i64 X1] 3))
                  have M7 : Mine w.heap.size w ((wz.alloc (.cells #[.int .i64 X0, .int .i64 X1] 3)).drew) _ t 2 _ := M6.under (below_drewN (Below.refl _ _) 1)
                  have htp := t_top M7.tree (c := 2) (A := some ⟨wz.heap.size, 0, none⟩) (n := 2) (vec := [X0, X1]) ((news_int wz [X0, X1] (by simp)).drew) (by show wz.heap.size + 1 ≤ (wz.alloc _).heap.size; simp) (by unfold maxLen; omega) 0 (by rw [← hvi]; exact HCK.out) (k := 1) (by omega) (by omega)
                  rw [show ((1 : Nat) : Int) = 1 from rfl] at htp
                  have HM7 := Lib.hid M7
                  have HVI := Lib.hid hvi
                  clear M6 M7 hab hil hbx hvi hk hf hki
                  go_wp2_with fail
                  go_region_held3 (fun w' => w'.cell? (ad.add (i * 2)) = some (.int .i64 Z0) ∧ w'.cell? ⟨(ad.add (i * 2)).block, (ad.add (i * 2)).off + 1, none⟩ = some (.int .i64 Z1)) (first | exact ⟨x0, x1⟩ | exact HS8.out | go_keep) ((go_at_call 21; with_reducible refine htp.mono ?_; intro e w8 hpost; unfold TopPost at hpost; obtain ⟨A8, m8, rfl, hR8, hm8, hb8⟩ := hpost; have HM8 := Lib.hid (HM7.out.under hb8); have HR8 := Lib.hid hR8; have HS8 := Lib.hid (HKP.out w8 HM8.out.below); clear hR8))
                  clear htp
                  have hR8 := HR8.out
                  rw [← HVI.out, HTS.out] at hR8
                  have hsm := same_any A8 (some ⟨w8.heap.size, 0, none⟩) m8 1 m8 1 w8.heap.size (w8.heap.size + 1) [((f : Int), 0)] [((f : Int), 0)] (w8.alloc (.cells #[.int .i64 f, .int .i64 0] 57)) (hR8.alloc (Nat.le_refl _) _) (news_hit w8 [((f : Int), 0)] (by simp)) (by unfold maxLen; omega) (by unfold maxLen; omega)
                  rw [decide_eq_true rfl] at hsm
                  have HM9 := Lib.hid (HM8.out.under ((Below.refl _ w8).alloc (Nat.le_refl _) (.cells #[.int .i64 f, .int .i64 0] 57)))
                  clear hR8 hb8
                  go_wp2_with fail
                  refine hsm.mono ?_
                  rintro e w9 ⟨rfl, q9, rfl⟩
                  have HM10 := Lib.hid (HM9.out.drewN q9)
                  go_wp2_with fail
                  go_roundw
                  case rel => exact ⟨i + 1, by omega, by go_num, HM10⟩
                  case measure => simp [intOf]; omega
            · have hltz : ¬ (i : Int) < (n0 : Int) := by omega
              go_wp2_with fail
              refine (HAW.out _).mono ?_
              rintro e w12 ⟨rfl, hb12⟩
              go_wp2_with fail
              go_ret
              exact ⟨rfl, (HX.out.under hb12).below⟩
end Go.Proofs.Ytkgapieikgniiaa
