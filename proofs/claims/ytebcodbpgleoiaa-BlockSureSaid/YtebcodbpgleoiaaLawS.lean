/- The walk of BlockSure. Conditions: none. -/
import Derived.Test.YtebcodbpgleoiaaSur
set_option linter.unusedVariables false
set_option linter.unusedSimpArgs false
namespace Go.Proofs.Ytebcodbpgleoiaa
open Go Go.RowKit
/-- The first k writes, one for each block. -/
def puts (S : List ByteArray) (k : Nat) : List (Nat × ByteArray) := (List.range k).map fun j => (j, S.getD j ⟨#[]⟩)
theorem puts_succ (S : List ByteArray) (k : Nat) : puts S (k + 1) = puts S k ++ [(k, S.getD k ⟨#[]⟩)] := by
  unfold puts
  rw [List.range_succ, List.map_append]
  rfl
theorem puts_all (s0 s1 s2 s3 : ByteArray) : setsP (puts [s0, s1, s2, s3] 4) (none_ 4) = [s0, s1, s2, s3] := rfl
theorem lw_len (Z : Nat → ByteArray) (k : Nat) : (lw Z k).length ≤ k := by
  unfold lw
  rw [List.length_map]
  exact Nat.le_trans (List.length_filter_le ..) (by simp)
theorem size_at {S : List ByteArray} {B : Nat} (h : ∀ s ∈ S, s.size ≤ B) (k : Nat) : (S.getD k ⟨#[]⟩).size ≤ B := by
  rw [List.getD_eq_getElem?_getD]
  rcases hk : S[k]? with _ | s
  · exact Nat.zero_le _
  · exact h s (List.mem_of_getElem? hk)
set_option maxHeartbeats 2000000 in
set_option maxRecDepth 100000 in
theorem blockSure_walk (s0 s1 s2 s3 z0 z1 z2 z3 : ByteArray) (a0 a1 : Int) (W : World) (hs : s0.size ≤ maxLen ∧ s1.size ≤ maxLen ∧ s2.size ≤ maxLen ∧ s3.size ≤ maxLen) (hz : z0.size ≤ maxLen ∧ z1.size ≤ maxLen ∧ z2.size ≤ maxLen ∧ z3.size ≤ maxLen)
    (ha0 : -9223372036854775808 ≤ a0 ∧ a0 ≤ 9223372036854775807) (ha1 : -9223372036854775808 ≤ a1 ∧ a1 ≤ 9223372036854775807) :
    Calls Try.prog 4 #[.agg #[.string s0, .string s1, .string s2, .string s3], .agg #[.string z0, .string z1, .string z2, .string z3], .agg #[.int .i64 a0, .int .i64 a1]] W (Gives (.bool true) W) := by
  obtain ⟨W2, hW2⟩ : ∃ W2, W2 = ((W.alloc (.cells #[.string s0, .string s1, .string s2, .string s3] 47)).alloc (.cells #[.string z0, .string z1, .string z2, .string z3] 47)).alloc (.cells #[.int .i64 a0, .int .i64 a1] 48) := ⟨_, rfl⟩
  have hB2 : Below W.heap.size W W2 := by rw [hW2]; exact (((Below.refl _ W).alloc (Nat.le_refl _) _).alloc (by simp) _).alloc (by simp; omega) _
  have hs2 : W2.heap.size = W.heap.size + 3 := by rw [hW2]; simp
  obtain ⟨S, hS⟩ : ∃ S, S = [s0, s1, s2, s3] := ⟨_, rfl⟩
  obtain ⟨Zl, hZ⟩ : ∃ Zl, Zl = [z0, z1, z2, z3] := ⟨_, rfl⟩
  have hr0 : Row W2 W.heap.size 47 (strs S) := by rw [hW2, hS]; exact ((Row.new W 47 (strs [s0, s1, s2, s3])).keep (heap_alloc_lt _ _ (by simp))).keep (heap_alloc_lt _ _ (by simp; omega))
  have hr1 : Row W2 (W.heap.size + 1) 47 (strs Zl) := by
    rw [hW2, hZ]
    have := Row.new (W.alloc (.cells #[.string s0, .string s1, .string s2, .string s3] 47)) 47 (strs [z0, z1, z2, z3])
    rw [World.size_alloc] at this
    exact this.keep (heap_alloc_lt _ _ (by simp))
  have hr2 : Row W2 (W.heap.size + 2) 48 [.int .i64 a0, .int .i64 a1] := by
    rw [hW2]
    have := Row.new ((W.alloc (.cells #[.string s0, .string s1, .string s2, .string s3] 47)).alloc (.cells #[.string z0, .string z1, .string z2, .string z3] 47)) 48 [.int .i64 a0, .int .i64 a1]
    simpa using this
  have hSl : S.length = 4 := by rw [hS]; rfl
  have hZl : Zl.length = 4 := by rw [hZ]; rfl
  have hSs : ∀ s ∈ S, s.size ≤ maxLen := by rw [hS]; intro s h; simp at h; rcases h with rfl | rfl | rfl | rfl <;> omega
  have hZs : ∀ s ∈ Zl, s.size ≤ maxLen := by rw [hZ]; intro s h; simp at h; rcases h with rfl | rfl | rfl | rfl <;> omega
  have hpa : setsP (puts S 4) (none_ 4) = S := by rw [hS]; exact puts_all s0 s1 s2 s3
  have H := Lib.hid (And.intro hB2 (And.intro hs2 (And.intro hr0 (And.intro hr1 hr2))))
  have HI := Lib.hid (And.intro ha0 ha1)
  have HL := Lib.hid (And.intro hSl (And.intro hZl (And.intro hpa (And.intro hSs hZs))))
  clear hB2 hr0 hr1 hr2 ha0 ha1 hs hz hSl hZl hpa hSs hZs
  go_enter Try.func4, Try.ntmps4
  go_wp2_with fail
  rw [← hW2]
  clear hW2 hS hZ
  refine (a_new 4 (by decide) (by decide) W2).mono ?_
  rintro e w1 ⟨d, F, rfl, hD1, hF1, hb1⟩
  go_wp2_with fail
  go_loopw [9] (fun i wr => ∃ (k : Nat) (F : Nat → Prop), i = .int .i64 (k : Int) ∧ k ≤ 4 ∧ Disk wr F d 4 (none_ 4) (puts S k) ∧ (∀ b, F b → W2.heap.size ≤ b) ∧ Below W2.heap.size W2 wr ∧ ∀ j, j < k → (Zl.getD j ⟨#[]⟩).size ≤ 128) (fun i _ => 4 - (intOf i).toNat)
  case atStart => exact ⟨0, F, rfl, by omega, hD1, hF1, hb1, fun j hj => by omega⟩
  case round =>
    clear hD1 hF1 hb1
    obtain ⟨k, F, rfl, hk, hD, hF, hB, hZk⟩ := hrel
    by_cases hlt : k < 4
    · have hltz : (k : Int) < 4 := by omega
      have cs := (H.out.2.2.1.keep (hB.block _ (by rw [hs2]; omega))).cell (strs_get (l := S) (j := k) (by rw [HL.out.1]; exact hlt))
      have cz := (H.out.2.2.2.1.keep (hB.block _ (by rw [hs2]; omega))).cell (strs_get (l := Zl) (j := k) (by rw [HL.out.2.1]; exact hlt))
      have ls : W.heap.size + 1 < wr.heap.size := by have := hB.size; omega
      have ls0 : W.heap.size < wr.heap.size := by omega
      have hx1 := size_at HL.out.2.2.2.1 k
      have hx2 := size_at HL.out.2.2.2.2 k
      have hps := puts_succ S k
      have hZk1 : (Zl.getD k ⟨#[]⟩).size ≤ 128 → ∀ j, j < k + 1 → (Zl.getD j ⟨#[]⟩).size ≤ 128 := fun h j hj => by
        rcases Nat.lt_or_ge j k with h' | h'
        · exact hZk j h'
        · obtain rfl : j = k := by omega
          exact h
      generalize S.getD k ⟨#[]⟩ = s at *
      generalize Zl.getD k ⟨#[]⟩ = z at *
      have hlen : (puts S k).length ≤ 1000000 := by unfold puts; simp; omega
      have HX := Lib.hid (And.intro hD (And.intro hF (And.intro hB (And.intro hZk1 hps))))
      clear hD hF hB hZk hZk1 hps
      have hx1 : s.size ≤ 9223372036854775807 := by simp only [maxLen] at hx1; omega
      have hx2 : z.size ≤ 9223372036854775807 := by simp only [maxLen] at hx2; omega
      by_cases h1 : 128 < s.size
      · have h1z : (128 : Int) < (s.size : Int) := by omega
        go_wp2_with fail
        refine (awake_any wr).mono ?_
        rintro e w9 ⟨rfl, hb9⟩
        go_wp2_with fail
        go_ret
        exact ⟨rfl, below_then H.out.1 (below_then HX.out.2.2.1 hb9)⟩
      by_cases h2 : 128 < z.size
      · have h1z : ¬ (128 : Int) < (s.size : Int) := by omega
        have h2z : (128 : Int) < (z.size : Int) := by omega
        go_wp2_with fail
        refine (awake_any wr).mono ?_
        rintro e w9 ⟨rfl, hb9⟩
        go_wp2_with fail
        go_ret
        exact ⟨rfl, below_then H.out.1 (below_then HX.out.2.2.1 hb9)⟩
      · have h1z : ¬ (128 : Int) < (s.size : Int) := by omega
        have h2z : ¬ (128 : Int) < (z.size : Int) := by omega
        go_wp2_with fail
        refine (a_put HX.out.1 k hlt s (by omega) hlen).mono ?_
        rintro e w3 ⟨rfl, F3, hD3, hT3⟩
        have hF3 := hT3.far HX.out.2.1 HX.out.2.2.1.size
        have hB3 := HX.out.2.2.1.trans (hT3.down HX.out.2.1 HX.out.2.2.1.size)
        rw [← HX.out.2.2.2.2] at hD3
        go_wp2_with fail
        go_roundw
        case rel => exact ⟨k + 1, F3, by go_num, by omega, hD3, hF3, hB3, HX.out.2.2.2.1 (by omega)⟩
        case measure => simp [intOf]; omega
    · obtain rfl : k = 4 := by omega
      have hlen : (puts S 4).length ≤ 1000000 := by unfold puts; simp
      have HX := Lib.hid (And.intro hD (And.intro hF (And.intro hB hZk)))
      clear hD hF hB hZk
      go_wp2_with fail
      refine (a_sync HX.out.1 hlen).mono ?_
      rintro e w3 ⟨rfl, hD3, hT3⟩
      rw [HL.out.2.2.1] at hD3
      have hB3 := HX.out.2.2.1.trans (hT3.down HX.out.2.1 HX.out.2.2.1.size)
      have HY := Lib.hid (And.intro hD3 (And.intro HX.out.2.1 (And.intro hB3 HX.out.2.2.2)))
      clear HX hT3 hD3 hB3 hlen hk hlt
      obtain ⟨Z, hZZ⟩ : ∃ Z : Nat → ByteArray, Z = fun j => Zl.getD j ⟨#[]⟩ := ⟨_, rfl⟩
      have HZ := Lib.hid hZZ
      clear hZZ
      go_wp2_with fail
      go_loopw [10] (fun i wr => ∃ (k : Nat) (F : Nat → Prop), i = .int .i64 (k : Int) ∧ k ≤ 4 ∧ Disk wr F d 4 S (lw Z k) ∧ (∀ b, F b → W2.heap.size ≤ b) ∧ Below W2.heap.size W2 wr) (fun i _ => 4 - (intOf i).toNat)
      case atStart => exact ⟨0, _, rfl, by omega, HY.out.1, HY.out.2.1, HY.out.2.2.1⟩
      case round =>
        obtain ⟨k, F, rfl, hk, hD, hF, hB⟩ := hrel
        by_cases hlt : k < 4
        · have hltz : (k : Int) < 4 := by omega
          have cz := (H.out.2.2.2.1.keep (hB.block _ (by rw [hs2]; omega))).cell (strs_get (l := Zl) (j := k) (by rw [HL.out.2.1]; exact hlt))
          have ls : W.heap.size + 1 < wr.heap.size := by have := hB.size; omega
          have hx2 := HY.out.2.2.2 k hlt
          have hzk : Zl.getD k ⟨#[]⟩ = Z k := by rw [HZ.out]
          rw [hzk] at cz hx2
          have hll := lw_succ (Z := Z) k
          have hlen : (lw Z k).length ≤ 1000000 := by have := lw_len Z k; omega
          clear hzk
          generalize Z k = z at *
          have HX := Lib.hid (And.intro hD (And.intro hF (And.intro hB hll)))
          clear hD hF hB hll
          cases he : z.toList.isEmpty with
          | true =>
            go_wp2_with fail
            go_roundw
            case rel =>
              refine ⟨k + 1, F, by go_num, by omega, ?_, HX.out.2.1, HX.out.2.2.1⟩
              have := HX.out.2.2.2
              rw [he] at this
              rw [this]
              simpa using HX.out.1
            case measure => simp [intOf]; omega
          | false =>
            go_wp2_with fail
            refine (a_put HX.out.1 k hlt z hx2 hlen).mono ?_
            rintro e w3 ⟨rfl, F3, hD3, hT3⟩
            have hF3 := hT3.far HX.out.2.1 HX.out.2.2.1.size
            have hB3 := HX.out.2.2.1.trans (hT3.down HX.out.2.1 HX.out.2.2.1.size)
            go_wp2_with fail
            go_roundw
            case rel =>
              refine ⟨k + 1, F3, by go_num, by omega, ?_, hF3, hB3⟩
              have := HX.out.2.2.2
              rw [he] at this
              rw [this]
              exact hD3
            case measure => simp [intOf]; omega
        · obtain rfl : k = 4 := by omega
          have hlen : (lw Z 4).length ≤ 1000000 := by have := lw_len Z 4; omega
          have a_0 := (H.out.2.2.2.2.keep (hB.block _ (by rw [hs2]; omega))).cell (j := 0) rfl
          have a_1 := (H.out.2.2.2.2.keep (hB.block _ (by rw [hs2]; omega))).cell (j := 1) rfl
          have la : W.heap.size + 1 + 1 < wr.heap.size := by have := hB.size; omega
          have HX := Lib.hid (And.intro hD (And.intro hF hB))
          clear hD hF hB
          go_wp2_with fail
          refine (a_fail HX.out.1 hlen a0 a1 HI.out.1.1 HI.out.1.2 HI.out.2.1 HI.out.2.2).mono ?_
          rintro e w6 ⟨rfl, hD6, hT6⟩
          rw [failP_m] at hD6
          have hB6 := HX.out.2.2.trans (hT6.down HX.out.2.1 HX.out.2.2.size)
          clear hT6 a_0 a_1 la hlen hk hlt
          generalize shr a0 (lw Z 4).length = m at *
          have hff := fun k hk => fail_four (Z := Z) (S := S) (m := m) (k := k) a1 hk HL.out.1
          generalize failM (lw Z 4) S m a1 = X at *
          have hSmall := hD6.small
          have HW := Lib.hid (And.intro hD6 (And.intro hB6 (And.intro hff hSmall)))
          clear hD6 hB6 hff HX
          go_wp2_with fail
          go_loopw [13, 11, 12] (fun i u v wr => ∃ (k t : Nat) (c : Bool) (q : Nat), i = .int .i64 (k : Int) ∧ k ≤ 4 ∧ u = .int .i64 (t : Int) ∧ v = .bool c ∧ wr = w6.drewN q ∧ t ≤ 1 ∧ ((lw Z k).length ≤ m → t = 0 ∧ c = false)) (fun i _ _ _ => 4 - (intOf i).toNat)
          case atStart => exact ⟨0, 0, false, 0, rfl, by omega, rfl, rfl, rfl, by omega, fun _ => ⟨rfl, rfl⟩⟩
          case round =>
            obtain ⟨k, t, c, q, rfl, hk, rfl, rfl, rfl, ht, hinv⟩ := hrel
            by_cases hlt : k < 4
            · have hltz : (k : Int) < 4 := by omega
              have cs := (H.out.2.2.1.keep (HW.out.2.1.block _ (by rw [hs2]; omega))).cell (strs_get (l := S) (j := k) (by rw [HL.out.1]; exact hlt))
              have cz := (H.out.2.2.2.1.keep (HW.out.2.1.block _ (by rw [hs2]; omega))).cell (strs_get (l := Zl) (j := k) (by rw [HL.out.2.1]; exact hlt))
              have ls : W.heap.size + 1 < w6.heap.size := by have := HW.out.2.1.size; omega
              have ls0 : W.heap.size < w6.heap.size := by omega
              have hzk : Zl.getD k ⟨#[]⟩ = Z k := by rw [HZ.out]
              rw [hzk] at cz
              have hx2 := HY.out.2.2.2 k hlt
              rw [hzk] at hx2
              obtain ⟨f1, f2, f3, f4⟩ := HW.out.2.2.1 k hlt
              have hmore := lw_more (Z := Z) k
              have hget := a_get (HW.out.1.drewN q) k hlt
              have hsx : (setsP [] X).getD k ⟨#[]⟩ = X.getD k ⟨#[]⟩ := rfl
              rw [hsx] at hget
              clear hsx hzk
              generalize Z k = z at *
              generalize X.getD k ⟨#[]⟩ = x at *
              have hs1 := size_at HY.out.1.small k
              generalize S.getD k ⟨#[]⟩ = s at *
              have HF := Lib.hid (And.intro f1 (And.intro f2 (And.intro f3 (And.intro f4 (And.intro hinv hmore)))))
              have HG := Lib.hid hget
              clear f1 f2 f3 f4 hinv hmore hget
              cases he : z.toList.isEmpty with
              | true =>
                obtain rfl : x = s := HF.out.1 he
                cases c with
                | true =>
                  go_wp2_with fail
                  refine HG.out.mono ?_
                  rintro e w7 ⟨rfl, q7, rfl⟩
                  go_wp2_with fail
                  go_quiet (fail)
                  go_wp2_with fail
                  go_roundw
                  case rel => exact ⟨k + 1, t, true, _, by go_num, by omega, rfl, rfl, rfl, ht, fun h => HF.out.2.2.2.2.1 (by have := HF.out.2.2.2.2.2; rw [he] at this; simp only [cond_true] at this; omega)⟩
                  case measure => simp [intOf]; omega
                | false =>
                  go_wp2_with fail
                  refine HG.out.mono ?_
                  rintro e w7 ⟨rfl, q7, rfl⟩
                  go_wp2_with fail
                  go_quiet (fail)
                  go_wp2_with fail
                  go_roundw
                  case rel => exact ⟨k + 1, t, false, _, by go_num, by omega, rfl, rfl, rfl, ht, fun h => ⟨(HF.out.2.2.2.2.1 (by have := HF.out.2.2.2.2.2; rw [he] at this; simp only [cond_true] at this; omega)).1, rfl⟩⟩
                  case measure => simp [intOf]; omega
              | false =>
                by_cases hxs : x = s
                · subst hxs
                  cases c with
                  | true =>
                    go_wp2_with fail
                    refine HG.out.mono ?_
                    rintro e w7 ⟨rfl, q7, rfl⟩
                    go_wp2_with fail
                    go_quiet (fail)
                    go_wp2_with fail
                    go_roundw
                    case rel => exact ⟨k + 1, t, true, _, by go_num, by omega, rfl, rfl, rfl, ht, fun h => HF.out.2.2.2.2.1 (by have := HF.out.2.2.2.2.2; rw [he] at this; simp only [cond_false] at this; omega)⟩
                    case measure => simp [intOf]; omega
                  | false =>
                    by_cases hzx : z = x
                    · subst hzx
                      go_wp2_with fail
                      refine HG.out.mono ?_
                      rintro e w7 ⟨rfl, q7, rfl⟩
                      go_wp2_with fail
                      go_quiet (fail)
                      go_wp2_with fail
                      go_roundw
                      case rel => exact ⟨k + 1, t, false, _, by go_num, by omega, rfl, rfl, rfl, ht, fun h => ⟨(HF.out.2.2.2.2.1 (by have := HF.out.2.2.2.2.2; rw [he] at this; simp only [cond_false] at this; omega)).1, rfl⟩⟩
                      case measure => simp [intOf]; omega
                    · have hne := bytes_ne hzx
                      go_wp2_with fail
                      refine HG.out.mono ?_
                      rintro e w7 ⟨rfl, q7, rfl⟩
                      go_wp2_with fail
                      go_quiet (fail)
                      go_wp2_with fail
                      go_roundw
                      case rel => exact ⟨k + 1, t, true, _, by go_num, by omega, rfl, rfl, rfl, ht, fun h => absurd (HF.out.2.1 he (by have := HF.out.2.2.2.2.2; rw [he] at this; simp only [cond_false] at this; omega)).symm hzx⟩
                      case measure => simp [intOf]; omega
                · have hle : (lw Z k).length ≤ m := by
                    rcases Nat.lt_or_ge m (lw Z k).length with h | h
                    · exact absurd (HF.out.2.2.2.1 h) hxs
                    · exact h
                  obtain ⟨rfl, rfl⟩ := HF.out.2.2.2.2.1 hle
                  have hnes := bytes_ne hxs
                  by_cases hxz : x = z
                  · subst hxz
                    go_wp2_with fail
                    refine HG.out.mono ?_
                    rintro e w7 ⟨rfl, q7, rfl⟩
                    go_wp2_with fail
                    go_wp2_with fail
                    go_roundw
                    case rel => exact ⟨k + 1, 0, false, _, by go_num, by omega, rfl, rfl, rfl, by omega, fun _ => ⟨rfl, rfl⟩⟩
                    case measure => simp [intOf]; omega
                  · have hnez := bytes_ne hxz
                    have hem : (lw Z k).length = m := by
                      rcases Nat.lt_or_ge (lw Z k).length m with h | h
                      · exact absurd (HF.out.2.1 he h) hxz
                      · omega
                    have hmx := HF.out.2.2.1 he hem
                    have HM := Lib.hid (fun w => mixed_any z s (shr a1 z.size) (shr_le _ _) (by omega) (by omega) w)
                    rw [← hmx] at HM
                    have HMX := Lib.hid hmx
                    clear hmx
                    go_wp2_with fail
                    refine HG.out.mono ?_
                    rintro e w7 ⟨rfl, q7, hw7⟩
                    have cs7 : w7.cell? ⟨W.heap.size, k, none⟩ = some (.string s) := by rw [hw7]; exact cs
                    have cz7 : w7.cell? ⟨W.heap.size + 1, k, none⟩ = some (.string z) := by rw [hw7]; exact cz
                    have ls7 : W.heap.size + 1 < w7.heap.size := by rw [hw7]; exact ls
                    have ls70 : W.heap.size < w7.heap.size := by omega
                    have HW7 := Lib.hid hw7
                    clear hw7
                    go_wp2_with fail
                    go_quiet ((go_at_call 21; exact Calls.quiet_of_same (HM.out _)))
                    go_wp2_with fail
                    go_roundw
                    case rel => exact ⟨k + 1, 1, false, _, by go_num, by omega, by go_num, rfl, (by rw [HW7.out, World.drewN_drewN, World.drewN_drewN]), by omega, fun h => absurd h (by have := HF.out.2.2.2.2.2; rw [he] at this; simp only [cond_false] at this; omega)⟩
                    case measure => simp [intOf]; omega
            · obtain rfl : k = 4 := by omega
              have htz : (t : Int) ≤ 1 := by omega
              go_wp2_with fail
              refine (awake_any _).mono ?_
              rintro e w8 ⟨rfl, hb8⟩
              go_wp2_with fail
              go_ret
              exact ⟨rfl, below_then H.out.1 (below_then (below_drewN HW.out.2.1 q) hb8)⟩
end Go.Proofs.Ytebcodbpgleoiaa
