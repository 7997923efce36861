/- VptreeFull: a tree takes as many points as may be. Conditions: none. -/
import Derived.Test.YtkgapieikgniiaaVAwk
import Derived.WalkLawsBesides
set_option linter.unusedVariables false
set_option linter.unusedSimpArgs false
namespace Go.Proofs.Ytkgapieikgniiaa
open Go Go.RowKit Go.Maps
theorem delT_len : ∀ {T : List Pnt} {x : Int}, Rise T → (delT x T).length + (if hasT x T = true then 1 else 0) = T.length
  | [], x, _ => rfl
  | p :: r, x, h => by
    obtain ⟨h1, h2⟩ := List.pairwise_cons.1 h
    have ih := delT_len (x := x) h2
    by_cases hp : p.1 = x
    · have hr : hasT x r = false := by
        rw [Bool.eq_false_iff, Ne, hasT_iff]
        rintro ⟨q, hq, e⟩
        have := h1 q hq
        omega
      rw [hr] at ih
      have e1 : delT x (p :: r) = delT x r := by simp [delT, hp]
      have e2 : hasT x (p :: r) = true := by simp [hasT, hp]
      rw [e1, e2]
      simp at ih ⊢
      exact ih
    · have e1 : delT x (p :: r) = p :: delT x r := by simp [delT, hp]
      have e2 : hasT x (p :: r) = hasT x r := by simp [hasT, hp]
      rw [e1, e2]
      simp only [List.length_cons]
      omega
theorem putT_len {T : List Pnt} {x : Int} {l : List Int} (h : Rise T) : (putT x l T).length = if hasT x T = true then T.length else T.length + 1 := by
  have h1 := (putT_perm x l T).length_eq
  have h2 := delT_len (x := x) h
  rw [List.length_cons] at h1
  split <;> rename_i hh
  · rw [if_pos hh] at h2
    omega
  · rw [if_neg hh] at h2
    omega
/-- The points put in up to there. -/
def fullT (i : Nat) : List Pnt := (List.range i).map fun (j : Nat) => ((j : Int), [((j : Int) * 7) % 100])
theorem fullT_len (i : Nat) : (fullT i).length = i := by simp [fullT]
theorem fullT_mem {i : Nat} {p : Pnt} (h : p ∈ fullT i) : ∃ j : Nat, j < i ∧ p = ((j : Int), [((j : Int) * 7) % 100]) := by
  obtain ⟨j, hj, rfl⟩ := List.mem_map.1 h
  exact ⟨j, by simpa using hj, rfl⟩
theorem fullT_no (i : Nat) (x : Nat) (hx : i ≤ x) : hasT (x : Int) (fullT i) = false := by
  rw [Bool.eq_false_iff, Ne, hasT_iff]
  rintro ⟨p, hp, e⟩
  obtain ⟨j, hj, rfl⟩ := fullT_mem hp
  have : (j : Int) = (x : Int) := e
  omega
theorem fullT_next (i : Nat) : putT (i : Int) [((i : Int) * 7) % 100] (fullT i) = fullT (i + 1) := by
  unfold putT
  rw [List.filter_eq_self.2 (fun p hp => by
    obtain ⟨j, hj, rfl⟩ := fullT_mem hp
    exact decide_eq_true (by show (j : Int) < (i : Int); omega)), List.filter_eq_nil_iff.2 (fun p hp => by
    obtain ⟨j, hj, rfl⟩ := fullT_mem hp
    simp
    omega)]
  unfold fullT
  rw [List.range_succ, List.map_append]
  rfl
theorem ck_one (z : Int) (h1 : -2147483648 ≤ z) (h2 : z ≤ 2147483647) : ck [z] 1 = 0 := by
  rw [ck_zero]
  refine ⟨(okV_iff _).2 ⟨by simp, by simp, fun x hx => ?_⟩, rfl⟩
  rw [List.mem_singleton.1 hx]
  exact ⟨h1, h2⟩
theorem top_full (n : Nat) : topH (putT 5 [-1] (fullT n)) [-1] 1 0 = [(5, 0)] := by
  unfold topH
  have hp := nearH_perm (v := [-1]) (lim := 0) (putT_perm 5 [-1] (fullT n))
  rw [bst_perm hp, nearH_cons]
  have hd : nearH [-1] 0 (delT 5 (fullT n)) = [] := by
    unfold nearH
    rw [List.filter_eq_nil_iff]
    intro h hh
    obtain ⟨p, hp, rfl⟩ := List.mem_map.1 hh
    obtain ⟨j, hj, rfl⟩ := fullT_mem (List.mem_filter.1 hp).1
    have : far [((j : Int) * 7) % 100] [-1] = gap (((j : Int) * 7) % 100) (-1) + far [] [] := rfl
    simp only [decide_eq_true_eq]
    rw [this]
    have h2 : far [] [] = 0 := far_nil []
    rw [h2]
    unfold gap
    split <;> omega
  rw [hd]
  decide +kernel
theorem and3 (n : Int) : bits .and .i64 n 3 = n % 4 := by
  have hm : (BitVec.ofInt 64 3).toNat = 2 ^ 2 - 1 := by decide
  have key : (BitVec.ofInt 64 n &&& BitVec.ofInt 64 3).toNat = (n % ((2 ^ 64 : Nat) : Int)).toNat % 2 ^ 2 := by
    rw [BitVec.toNat_and, BitVec.toNat_ofInt, hm, Nat.and_two_pow_sub_one_eq_mod]
  show IntKind.i64.wrap ((BitVec.ofInt 64 n &&& BitVec.ofInt 64 3).toNat : Nat) = n % 4
  rw [key, IntKind.wrap_i64]
  omega
/-- Put of a point whose vector the text writes, where there is no room. -/
theorem put_new_full {b0 : Nat} {w0 w : World} {F : Nat → Prop} {t : Nat} {T : List Pnt} {dim : Nat} (h : Mine b0 w0 w F t dim T) (x : Int) (l : List Int) (hl0 : l ≠ []) (hx : (Lit.int .i64 x).wf = true) (hk : ck l dim = 0) (hi : hasT x T = false) (hf : 512 ≤ T.length) :
    Calls Try.prog 19 #[.pointer (some ⟨t, 0, none⟩), .agg #[.int .i64 x, .slice (some ⟨w.heap.size, 0, none⟩) l.length l.length]] (w.alloc (.cells (ints l).toArray 3)) fun e w' => e = .returned (.tuple #[.bool false, .int .i64 2]) ∧ Mine b0 w0 w' F t dim T := by
  have h0 := h.under ((Below.refl _ w).alloc (Nat.le_refl _) (.cells (ints l).toArray 3))
  have hl16 := ((okV_iff l).1 (ck_len hk).1).2.1
  refine (t_put_full h0.tree hx (news_int w l hl0) (by simp) (by unfold maxLen; omega) hk hi hf).mono ?_
  rintro e w' ⟨rfl, ht, hT⟩
  exact ⟨rfl, h0.turn ht hT⟩
theorem full_walk0 (n : Nat) (h1 : 511 ≤ n) (h2 : n ≤ 514) : hasT 5 (fullT (min n 512)) = true ∧ (putT 5 [-1] (fullT (min n 512))).length = min n 512 := by
  have hh : hasT 5 (fullT (min n 512)) = true := by
    rw [hasT_iff]
    exact ⟨((5 : Nat), [(((5 : Nat) : Int) * 7) % 100]), List.mem_map.2 ⟨5, by simp; omega, rfl⟩, rfl⟩
  have hr : Rise (fullT (min n 512)) := by
    unfold Rise fullT
    rw [List.pairwise_map]
    refine List.pairwise_lt_range.imp (fun h => ?_)
    show ((_ : Nat) : Int) < ((_ : Nat) : Int)
    omega
  rw [putT_len hr, if_pos hh, fullT_len]
  exact ⟨hh, rfl⟩
set_option maxHeartbeats 2000000 in
set_option maxRecDepth 100000 in
theorem vptreeFull_walk (more : Int) (w : World) : Calls Try.prog 7 #[.int .i64 more] w (Gives (.bool true) w) := by
  have hnew := vnew_any 1 w (by omega) (by omega)
  have HAW := Lib.hid awake_any
  have hand := and3 more
  obtain ⟨m, hm⟩ : ∃ m : Nat, (m : Int) = more % 4 := ⟨(more % 4).toNat, by omega⟩
  have hm3 : m ≤ 3 := by omega
  rw [← hm] at hand
  clear hm
  go_enter Try.func7, Try.ntmps7
  go_wp2_with fail
  refine hnew.mono ?_
  rintro e w1 ⟨F1, t, rfl, ht1, hF1, hb1⟩
  have M1 := Mine.new (Below.refl _ w) (Nat.le_refl _) ht1 hF1 hb1
  have HM1 := Lib.hid M1
  clear ht1 hF1 hb1 M1 hnew
  go_wp2_with fail
  go_loopw [6] (fun vi wr => ∃ (i : Nat) (F : Nat → Prop), i ≤ 511 + m ∧ vi = .int .i64 i ∧ Hid (Mine w.heap.size w wr F t 1 (fullT (min i 512)))) (fun vi _ => 511 + m - (intOf vi).toNat)
  case atStart => exact ⟨0, F1, by omega, rfl, HM1⟩
  case round =>
    obtain ⟨i, F, hi, rfl, HM⟩ := hrel
    by_cases hlt : i < 511 + m
    · have hltz : (i : Int) < 511 + (m : Int) := by omega
      have hge : (0 : Int) ≤ (i : Int) * 7 := by omega
      by_cases h512 : i < 512
      · have hput := put_new HM.out (i : Int) [((i : Int) * 7) % 100] (by simp) (WalkArith.wf_i64 (by omega)) (ck_one _ (by omega) (by omega)) (.inr (by rw [fullT_len]; omega))
        rw [show min i 512 = i by omega, fullT_no i i (Nat.le_refl _), fullT_next] at hput
        have h5z : (i : Int) < 512 := by omega
        simp only [ints, List.map_cons, List.map_nil, List.length_cons, List.length_nil] at hput
        go_wp2_with fail
        refine hput.mono ?_
        rintro e w2 ⟨rfl, F2, M2⟩
        have HM2 := Lib.hid M2
        clear M2 hput
        go_wp2_with fail
        go_roundw
        case rel => exact ⟨i + 1, F2, by omega, by go_num, Lib.hid (by rw [show min (i + 1) 512 = i + 1 by omega]; exact HM2.out)⟩
        case measure => simp [intOf]; omega
      · have hput := put_new_full HM.out (i : Int) [((i : Int) * 7) % 100] (by simp) (WalkArith.wf_i64 (by omega)) (ck_one _ (by omega) (by omega)) (fullT_no _ i (by omega)) (by rw [fullT_len]; omega)
        have h5z : ¬ (i : Int) < 512 := by omega
        simp only [ints, List.map_cons, List.map_nil, List.length_cons, List.length_nil] at hput
        go_wp2_with fail
        refine hput.mono ?_
        rintro e w2 ⟨rfl, M2⟩
        have HM2 := Lib.hid M2
        clear M2 hput
        go_wp2_with fail
        go_roundw
        case rel => exact ⟨i + 1, F, by omega, by go_num, Lib.hid (by rw [show min (i + 1) 512 = min i 512 by omega]; exact HM2.out)⟩
        case measure => simp [intOf]; omega
    · have hin : i = 511 + m := by omega
      subst hin
      obtain ⟨hh, hlen⟩ := full_walk0 (511 + m) (by omega) (by omega)
      have hput := put_new HM.out 5 [-1] (by simp) (by decide) (by decide +kernel) (.inl hh)
      rw [hh] at hput
      simp only [ints, List.map_cons, List.map_nil, List.length_cons, List.length_nil] at hput
      have HLEN := Lib.hid hlen
      clear hh hlen
      go_wp2_with fail
      refine hput.mono ?_
      rintro e w2 ⟨rfl, F2, M2⟩
      have M3 := M2.under ((Below.refl _ w2).alloc (Nat.le_refl _) (.cells #[.int .i64 (-1)] 3))
      have htp := t_top M3.tree (c := 1) (news1 w2 (-1)) (by simp) (by unfold maxLen; omega) 0 (by decide +kernel) (k := 1) (by omega) (by omega)
      have HM3 := Lib.hid M3
      clear M2 M3 hput
      go_wp2_with fail
      refine htp.mono ?_
      rintro e w6 ⟨A6, m6, rfl, hR6, hm6, hb6⟩
      rw [top_full] at hR6
      have M6 := HM3.out.under hb6
      have hln := t_len M6.tree
      rw [HLEN.out, show ((min (511 + m) 512 : Nat) : Int) = min (511 + (m : Int)) 512 by omega] at hln
      have HM6 := Lib.hid (And.intro M6 hR6)
      clear htp M6 hR6 hb6
      go_wp2_with fail
      refine hln.mono ?_
      rintro e w7 ⟨rfl, q7, rfl⟩
      have M7 := HM6.out.1.drewN q7
      have hR7 := HM6.out.2.drewN q7
      have hs7 : (w6.drewN q7).heap.size = w6.heap.size := rfl
      generalize w6.drewN q7 = w7 at *
      have hb8 : Below w7.heap.size w7 (w7.alloc (.cells #[.int .i64 5, .int .i64 0] 57)) := (Below.refl _ w7).alloc (Nat.le_refl _) _
      have hsm := same_any A6 (some ⟨w7.heap.size, 0, none⟩) m6 1 m6 1 w7.heap.size (w7.heap.size + 1) [(5, 0)] [(5, 0)] (w7.alloc (.cells #[.int .i64 5, .int .i64 0] 57)) ((by rw [hs7]; exact hR7 : Reads w7 w7.heap.size 2 A6 m6 (hits [(5, 0)])).alloc (Nat.le_refl _) _) (news_hit w7 [(5, 0)] (by simp)) (by unfold maxLen; omega) (by unfold maxLen; omega)
      rw [decide_eq_true rfl] at hsm
      have HM8 := Lib.hid (M7.under hb8)
      clear M7 hR7 hs7 hb8 hln HM6
      go_wp2_with fail
      refine hsm.mono ?_
      rintro e w9 ⟨rfl, q9, rfl⟩
      go_wp2_with fail
      refine (HAW.out _).mono ?_
      rintro e w10 ⟨rfl, hb10⟩
      go_wp2_with fail
      go_ret
      exact ⟨rfl, ((HM8.out.drewN q9).under hb10).below⟩
end Go.Proofs.Ytkgapieikgniiaa
