/- The walk of BencMakes: it returns true. Conditions: Go's table of powers of ten lies as start-up lays it. -/
import Derived.Test.YtcgcocnbjijdaaaDoorMakB
import Derived.DataShut
set_option linter.unusedVariables false
set_option linter.unusedSimpArgs false
namespace Go.Proofs.YtcgcocnbjijdaaaDoor
open Go Go.RowKit

theorem i64_and15 (n : Int) : bits .and .i64 n 15 = n % 16 := by
  have hm : (BitVec.ofInt 64 15).toNat = 2 ^ 4 - 1 := by decide
  have key : (BitVec.ofInt 64 n &&& BitVec.ofInt 64 15).toNat = (n % ((2 ^ 64 : Nat) : Int)).toNat % 2 ^ 4 := by
    rw [BitVec.toNat_and, BitVec.toNat_ofInt, hm, Nat.and_two_pow_sub_one_eq_mod]
  show IntKind.i64.wrap ((BitVec.ofInt 64 n &&& BitVec.ofInt 64 15).toNat : Nat) = n % 16
  rw [key, IntKind.wrap_i64]
  omega
set_option maxRecDepth 100000 in
set_option maxHeartbeats 32000000 in
theorem makes_walk (n : Int) (s : ByteArray) (deep : Int) (w : World) (hn : wfT (tA n) = true) (hs : s.size ≤ 4096) (hT : Tabs w w.heap.size) : Calls Tryd.prog 8 #[.int .i64 n, .string s, .int .i64 deep] w (Gives (.bool true) w) := by
  have hz : ¬ (4096 : Int) < (s.size : Int) := by omega
  have HT := Lib.hid hT
  obtain ⟨k, hk⟩ : ∃ k : Nat, deep % 16 = (k : Int) := ⟨(deep % 16).toNat, by omega⟩
  have hk15 : k ≤ 15 := by omega
  have hand : bits .and .i64 deep 15 = (k : Int) := by rw [i64_and15]; exact hk
  have HK15 := Lib.hid hk15
  have HN := Lib.hid hn
  have HSZ := Lib.hid hs
  clear hT hk hk15 hn
  go_enter Tryd.func8, Tryd.ntmps8
  go_wp2_with fail
  refine (int_any n w).mono ?_
  rintro e w1 ⟨rfl, hb1⟩
  go_wp2_with fail
  refine (str_any s (by omega) w1).mono ?_
  rintro e w2 ⟨rfl, hb2⟩
  have hb12 := below_then hb1 hb2
  clear hb1 hb2
  go_wp2_with fail
  obtain ⟨W3, hW3⟩ : ∃ W3, W3 = (((w2.alloc (.cells #[.int .i64 1, .int .i64 n, .string ⟨#[]⟩, .slice none 0 0] 24)).alloc (.cells #[.int .i64 2, .int .i64 0, .string s, .slice none 0 0] 24)).alloc (.cells #[.int .i64 1, .int .i64 n, .string ⟨#[]⟩, .slice none 0 0, .int .i64 2, .int .i64 0, .string s, .slice none 0 0] 24)) := ⟨_, rfl⟩
  have hb3 : Below w.heap.size w W3 := by
    rw [hW3]
    exact ((hb12.alloc hb12.size _).alloc (by have := hb12.size; simp; omega) _).alloc (by have := hb12.size; simp; omega) _
  have k0 : W3.heap[w2.heap.size]? = some (.cells #[.int .i64 1, .int .i64 n, .string ⟨#[]⟩, .slice none 0 0] 24 (0, 0)) := by
    rw [hW3, Below.heap_alloc _ _ _ (by simp; omega), Below.heap_alloc _ _ _ (by simp)]
    exact heap_alloc_new w2 _
  have k1 : W3.heap[w2.heap.size + 1]? = some (.cells #[.int .i64 2, .int .i64 0, .string s, .slice none 0 0] 24 (0, 0)) := by
    rw [hW3, Below.heap_alloc _ _ _ (by simp)]
    have := heap_alloc_new (w2.alloc (.cells #[.int .i64 1, .int .i64 n, .string ⟨#[]⟩, .slice none 0 0] 24)) (.cells #[.int .i64 2, .int .i64 0, .string s, .slice none 0 0] 24)
    simpa using this
  have k2 : W3.heap[w2.heap.size + 1 + 1]? = some (.cells #[.int .i64 1, .int .i64 n, .string ⟨#[]⟩, .slice none 0 0, .int .i64 2, .int .i64 0, .string s, .slice none 0 0] 24 (0, 0)) := by
    rw [hW3]
    have := heap_alloc_new ((w2.alloc (.cells #[.int .i64 1, .int .i64 n, .string ⟨#[]⟩, .slice none 0 0] 24)).alloc (.cells #[.int .i64 2, .int .i64 0, .string s, .slice none 0 0] 24)) (.cells #[.int .i64 1, .int .i64 n, .string ⟨#[]⟩, .slice none 0 0, .int .i64 2, .int .i64 0, .string s, .slice none 0 0] 24)
    simpa using this
  rw [← hW3]
  have HB3 := Lib.hid hb3
  have K0 := Lib.hid k0
  have K1 := Lib.hid k1
  have K2 := Lib.hid k2
  clear hW3 hb3 k0 k1 k2 hb12
  generalize w2.heap.size = N2 at *
  have hrp : ReadsP Tr W3 4 (some ⟨N2 + 1 + 1, 0, none⟩) 2 [.int .i64 1, .int .i64 n, .string ⟨#[]⟩, .slice none 0 0, .int .i64 2, .int .i64 0, .string s, .slice none 0 0] := by
    refine ⟨rfl, fun _ => ⟨_, rfl, trivial, blk_lt K2.out, by simp [World.frozen?, K2.out], fun j u hu => ?_⟩⟩
    rw [add_flat, Nat.zero_add]
    simp only [World.cell?, K2.out]
    simpa using hu
  refine (list_rd Tr (some ⟨N2 + 1 + 1, 0, none⟩) 2 [tA n, tB s] _ W3 (fun _ _ => trivial) hrp (by simp) (rdl_two (rd_four (rd_tA n W3 Tr)) (rd_four (rd_tB s hs W3 Tr)))).mono ?_
  rintro e w5 ⟨A', c, rfl, hra, hrp5, hG, hb5⟩
  obtain ⟨G, rfl⟩ := hG (by simp)
  obtain ⟨ad, hA', _, hadl, _, hcl⟩ := hrp5.at_ (by simp)
  injection hA' with hA'
  subst hA'
  have hcl' : ∀ (j : Nat) (u : Value), ([.int .i64 1, .int .i64 n, .string ⟨#[]⟩, .slice none 0 0, .int .i64 2, .int .i64 0, .string s, .slice none 0 0] : List Value)[j]? = some u → w5.cell? ⟨G, j, none⟩ = some u := fun j u hj => by
    have := hcl j u hj
    rwa [add_flat, Nat.zero_add] at this
  have hl5 : G < w5.heap.size := hadl
  have K0 := Lib.hid (on_blk hb5 K0.out)
  have K1 := Lib.hid (on_blk hb5 K1.out)
  have HB5 := Lib.hid (below_then HB3.out hb5)
  have HRA : Hid (RdA Tr w5 (tL n s) (.agg #[.int .i64 3, .int .i64 0, .string ⟨#[]⟩, .slice (some ⟨G, 0, none⟩) 2 c])) := Lib.hid hra
  obtain ⟨W, hW⟩ : ∃ W, W = w5.alloc (.cells #[.int .i64 3, .int .i64 0, .string ⟨#[]⟩, .slice (some ⟨G, 0, none⟩) 2 c] 24) := ⟨_, rfl⟩
  obtain ⟨C, hC⟩ : ∃ C, C = w5.heap.size := ⟨_, rfl⟩
  have hsW : W.heap.size = C + 1 := by rw [hW, hC]; simp
  have hlt0 := blk_lt K0.out
  have hlt1 := blk_lt K1.out
  have kC : W.heap[C]? = some (.cells #[.int .i64 3, .int .i64 0, .string ⟨#[]⟩, .slice (some ⟨G, 0, none⟩) 2 c] 24 (0, 0)) := by rw [hW, hC]; exact heap_alloc_new w5 _
  have hWo : ∀ b, b < C → W.heap[b]? = w5.heap[b]? := fun b hb => by rw [hW]; exact Below.heap_alloc _ _ _ (by omega)
  have kA := (hWo _ (by omega)).trans K0.out
  have kB := (hWo _ (by omega)).trans K1.out
  have hSM : SM N2 (N2 + 1) C G c n s W := by
    obtain ⟨a0, a1, a2, a3, _⟩ := val_block kA
    obtain ⟨b0, b1, b2, b3, _⟩ := val_block kB
    obtain ⟨d0, d1, d2, d3, _⟩ := val_block kC
    have hg : ∀ j, W.cell? ⟨G, j, none⟩ = w5.cell? ⟨G, j, none⟩ := fun j => World.cell?_of_block (hWo G (by omega))
    exact ⟨a0, a1, a2, a3, b0, b1, b2, b3, d0, d1, d2, d3, (hg 0).trans (hcl' 0 _ rfl), (hg 1).trans (hcl' 1 _ rfl), (hg 2).trans (hcl' 2 _ rfl), (hg 3).trans (hcl' 3 _ rfl), (hg 4).trans (hcl' 4 _ rfl), (hg 5).trans (hcl' 5 _ rfl), (hg 6).trans (hcl' 6 _ rfl), (hg 7).trans (hcl' 7 _ rfl)⟩
  have hlim : N2 < W.heap.size ∧ N2 + 1 < W.heap.size ∧ C < W.heap.size ∧ G < W.heap.size := ⟨by omega, by omega, by omega, by omega⟩
  have hraW : RdA (fun b => b ≠ C) W (tL n s) (.agg #[.int .i64 3, .int .i64 0, .string ⟨#[]⟩, .slice (some ⟨G, 0, none⟩) 2 c]) := by
    rw [hW]
    exact (RdA.mono HRA.out (ok' := fun b => b ≠ C) (fun b _ hb => by omega)).keep ((Keeps.refl _ _).alloc _)
  have HSM := Lib.hid hSM
  have HLIM := Lib.hid hlim
  have HRW := Lib.hid hraW
  have HKC := Lib.hid kC
  have HBW : Hid (Below w.heap.size w W) := Lib.hid (by rw [hW]; exact HB5.out.alloc HB5.out.size _)
  have HCW : Hid (w.heap.size ≤ C) := Lib.hid (by rw [hC]; exact HB5.out.size)
  have HWE := Lib.hid hW
  have HCE := Lib.hid hC
  have hgl : G < W.heap.size := by omega
  have hS0 : Below W.heap.size W W.drew ∧ SM N2 (N2 + 1) C G c n s W.drew := ⟨(Below.refl _ W).drew, hSM⟩
  have HS0 := Lib.hid hS0
  clear hra hrp5 hcl hcl' hadl hb5 K0 K1 HRA hW hC kC hWo kA kB hSM hlim hraW HB5 HB3 K2 hrp hS0
  go_wp2_with fail
  rw [← HCE.out, ← HWE.out]
  go_region_held3 (fun w' => Below W.heap.size W w' ∧ w'.cell? ⟨N2, 0, none⟩ = some (.int .i64 1) ∧ w'.cell? ⟨N2, 1, none⟩ = some (.int .i64 n) ∧ w'.cell? ⟨N2, 2, none⟩ = some (.string ⟨#[]⟩) ∧ w'.cell? ⟨N2, 3, none⟩ = some (.slice none 0 0) ∧ w'.cell? ⟨N2 + 1, 0, none⟩ = some (.int .i64 2) ∧ w'.cell? ⟨N2 + 1, 1, none⟩ = some (.int .i64 0) ∧ w'.cell? ⟨N2 + 1, 2, none⟩ = some (.string s) ∧ w'.cell? ⟨N2 + 1, 3, none⟩ = some (.slice none 0 0) ∧ w'.cell? ⟨C, 0, none⟩ = some (.int .i64 3) ∧ w'.cell? ⟨C, 1, none⟩ = some (.int .i64 0) ∧ w'.cell? ⟨C, 2, none⟩ = some (.string ⟨#[]⟩) ∧ w'.cell? ⟨C, 3, none⟩ = some (.slice (some ⟨G, 0, none⟩) 2 c) ∧ w'.cell? ⟨G, 0, none⟩ = some (.int .i64 1) ∧ w'.cell? ⟨G, 1, none⟩ = some (.int .i64 n) ∧ w'.cell? ⟨G, 2, none⟩ = some (.string ⟨#[]⟩) ∧ w'.cell? ⟨G, 3, none⟩ = some (.slice none 0 0) ∧ w'.cell? ⟨G, 4, none⟩ = some (.int .i64 2) ∧ w'.cell? ⟨G, 5, none⟩ = some (.int .i64 0) ∧ w'.cell? ⟨G, 6, none⟩ = some (.string s) ∧ w'.cell? ⟨G, 7, none⟩ = some (.slice none 0 0))
    (first | exact HS0.out | exact keepS HSM.out HLIM.out (by assumption) hb3)
    (first | (go_at_call 18; refine (same_self (by first | exact ⟨_, fun w => rd_tA n w Tr⟩ | exact ⟨_, fun w => rd_tB s hs w Tr⟩) _).mono ?_; rintro e w3 ⟨rfl, hb3⟩) | (go_at_call 19; refine (cleanS HRW.out.any (kinds_tL n s) (clean_tL n s) (by assumption)).mono ?_; rintro e w3 ⟨rfl, hb3⟩))
  as_aux_lemma =>
  have hh : Below W.heap.size W w3 ∧ SM N2 (N2 + 1) C G c n s w3 := by assumption
  have hbW3 := below_then HBW.out hh.1
  have HB3 := Lib.hid hbW3
  have hr3 : RdA (fun b => b ≠ C) w3 (tL n s) (.agg #[.int .i64 3, .int .i64 0, .string ⟨#[]⟩, .slice (some ⟨G, 0, none⟩) 2 c]) := HRW.out.keep (Keeps.of_below hh.1 (fun b _ h => h))
  have kC3 := on_blk hh.1 HKC.out
  have HR3 := Lib.hid hr3
  have HC3 := Lib.hid kC3
  clear hh hbW3 hr3 kC3 hb3
  clear HSM HLIM HRW HKC HBW HWE HCE hgl HS0 hsW hlt0 hlt1 hl5
  go_wp2_with fail
  go_loopw [11] (fun i wr => ∃ (j : Nat) (A1 : Option Addr) (L1 c1 : Nat), j ≤ k ∧ i = .int .i64 (j : Int) ∧ Hid (RdA (fun b => b ≠ C) wr (wrap (tL n s) j) (.agg #[.int .i64 3, .int .i64 0, .string ⟨#[]⟩, .slice A1 L1 c1])) ∧ Hid (wr.heap[C]? = some (.cells #[.int .i64 3, .int .i64 0, .string ⟨#[]⟩, .slice A1 L1 c1] 24 (0, 0))) ∧ Hid (Below w.heap.size w wr)) (fun i _ => k - (intOf i).toNat)
  case atStart => exact ⟨0, _, _, _, Nat.zero_le _, rfl, HR3, HC3, HB3⟩
  case round =>
    obtain ⟨j, A1, L1, c1, hj, rfl, HR, HC, HB⟩ := hrel
    have hlC := blk_lt HC.out
    obtain ⟨e0, e1, e2, e3, ef⟩ := val_block HC.out
    by_cases hlt : j < k
    · as_aux_lemma =>
      have hlz : (j : Int) < (k : Int) := by omega
      have hk15 := HK15.out
      go_wp2_with fail
      obtain ⟨hq1, hb1, hsz1⟩ := box_start wr (.int .i64 3) (.int .i64 0) (.string ⟨#[]⟩) (.slice A1 L1 c1)
      have hra1 := HR.out.keep ((Keeps.refl (fun b => b ≠ C) wr).alloc (.cells #[.int .i64 3, .int .i64 0, .string ⟨#[]⟩, .slice A1 L1 c1] 24))
      have hC1 := on_blk hb1 HC.out
      generalize wr.alloc (.cells #[.int .i64 3, .int .i64 0, .string ⟨#[]⟩, .slice A1 L1 c1] 24) = W1 at *
      have hrp : ReadsP Tr W1 4 (some ⟨wr.heap.size, 0, none⟩) 1 [.int .i64 3, .int .i64 0, .string ⟨#[]⟩, .slice A1 L1 c1] := by
        refine ⟨rfl, fun _ => ⟨_, rfl, trivial, blk_lt hq1, by simp [World.frozen?, hq1], fun j u hu => ?_⟩⟩
        rw [add_flat, Nat.zero_add]
        simp only [World.cell?, hq1]
        simpa using hu
      have HQ := Lib.hid hb1
      have HC1 := Lib.hid hC1
      clear hq1 hb1 hC1
      refine (list_rd (fun b => b ≠ C) (some ⟨wr.heap.size, 0, none⟩) 1 [wrap (tL n s) j] _ W1 (fun b hb => by omega) hrp (by simp) (rdl_one (rd_four hra1))).mono ?_
      rintro e w5 ⟨A', c', rfl, hra, _, _, hb5⟩
      have hC5 := on_blk hb5 HC1.out
      obtain ⟨f0, f1, f2, f3, ff⟩ := val_block hC5
      have hl5 := blk_lt hC5
      have hst := Lib.hid (blk_store hC5 (.int .i64 3) (.int .i64 0) (.string ⟨#[]⟩) (.slice A' 1 c'))
      have hbw := below_then (below_then HB.out HQ.out) hb5
      have HBW := Lib.hid (((((hbw.setCell (p := ⟨C, 0, none⟩) HCW.out (.int .i64 3)).setCell (p := ⟨C, 1, none⟩) HCW.out (.int .i64 0)).setCell (p := ⟨C, 2, none⟩) HCW.out (.string ⟨#[]⟩)).setCell (p := ⟨C, 3, none⟩) HCW.out (.slice A' 1 c')))
      have hra' : RdA (fun b => b ≠ C) w5 (wrap (tL n s) (j + 1)) (.agg #[.int .i64 3, .int .i64 0, .string ⟨#[]⟩, .slice A' 1 c']) := hra
      have HRA := Lib.hid (hra'.keep (((((Keeps.refl (fun b => b ≠ C) w5).setCell ⟨C, 0, none⟩ (by simp) (.int .i64 3)).setCell ⟨C, 1, none⟩ (by simp) (.int .i64 0)).setCell ⟨C, 2, none⟩ (by simp) (.string ⟨#[]⟩)).setCell ⟨C, 3, none⟩ (by simp) (.slice A' 1 c')))
      clear hra hra' hC5 hbw hb5 hrp hra1 e0 e1 e2 e3 ef
      go_wp2_with fail
      exact ⟨⟨j + 1, A', 1, c', by omega, by go_num, HRA, hst, HBW⟩, by simp [intOf]; omega⟩
    · obtain rfl : j = k := by omega
      have hput := wrap_put n s HSZ.out HN.out j HK15.out _ wr HR.out.any ((HT.out.on HB.out).up HB.out.size)
      have HPUT := Lib.hid hput
      clear hput
      by_cases h7 : j ≤ 7
      · as_aux_lemma =>
        have hz7 : ¬ (7 : Int) < (j : Int) := by omega
        have hput := HPUT.out
        rw [if_pos h7, if_pos h7] at hput
        have honly := wrap_only n s HSZ.out HN.out j h7
        have hsame := sameT_tidy (wrap (tL n s) j)
        have HPUT := Lib.hid hput
        have HONLY := Lib.hid honly
        have HSAME := Lib.hid hsame
        clear hput honly hsame h7
        generalize wrap (tL n s) j = t at *
        generalize tidy t = t1 at *
        generalize (⟨(enc t).toArray⟩ : ByteArray) = P at *
        go_wp2_with fail
        refine HPUT.out.mono ?_
        rintro e w4 ⟨rfl, hb4⟩
        go_wp2_with fail
        refine (HONLY.out w4).mono ?_
        rintro e w5 ⟨A2, c2, rfl, hr2, hb5⟩
        dsimp only at hr2 ⊢
        have hb45 := below_then hb4 hb5
        have hC5 := on_blk hb45 HC.out
        obtain ⟨f0, f1, f2, f3, ff⟩ := val_block hC5
        have hl5 := blk_lt hC5
        have hsm := same_any t t1 _ _ Tr Tr _ ((HR.out.any.next hb45).al (.cells #[.int .i64 t1.k, .int .i64 t1.n, .string t1.s, .slice A2 t1.l.length c2] 24)) (hr2.al (.cells #[.int .i64 t1.k, .int .i64 t1.n, .string t1.s, .slice A2 t1.l.length c2] 24))
        rw [HSAME.out] at hsm
        have HSM := Lib.hid hsm
        have HBW := Lib.hid ((below_then HB.out hb45))
        clear hsm hb45 hC5 hr2 hb4 hb5 e0 e1 e2 e3 ef
        go_wp2_with fail
        refine HSM.out.mono ?_
        rintro e w6 ⟨rfl, hb6⟩
        have hbw := below_then HBW.out (below_new hb6)
        go_wp2_with fail
        refine (awake_any w.heap.size _ (HT.out.on hbw) hbw.size).mono ?_
        rintro e w7 ⟨rfl, hb7⟩
        go_wp2_with fail
        go_ret
        exact ⟨rfl, below_then hbw hb7⟩
      · as_aux_lemma =>
        have hz7 : (7 : Int) < (j : Int) := by omega
        have hput := HPUT.out
        rw [if_neg h7, if_neg h7] at hput
        have HPUT := Lib.hid hput
        clear hput h7
        go_wp2_with fail
        refine HPUT.out.mono ?_
        rintro e w4 ⟨rfl, hb4⟩
        have hbw := below_then HB.out hb4
        go_wp2_with fail
        refine (awake_any w.heap.size _ (HT.out.on hbw) hbw.size).mono ?_
        rintro e w5 ⟨rfl, hb5⟩
        go_wp2_with fail
        go_ret
        exact ⟨rfl, below_then hbw hb5⟩
theorem makes_idle (n : Int) (s : ByteArray) (deep : Int) (w : World) (hs : ¬ s.size ≤ 4096) (hT : Tabs w w.heap.size) : Calls Tryd.prog 8 #[.int .i64 n, .string s, .int .i64 deep] w (Gives (.bool true) w) := by
  have hz : (4096 : Int) < (s.size : Int) := by omega
  have HT := Lib.hid hT
  clear hT hs
  go_enter Tryd.func8, Tryd.ntmps8
  go_wp2_with fail
  refine (awake_any w.heap.size w HT.out (Nat.le_refl _)).mono ?_
  rintro e w5 ⟨rfl, hb5⟩
  go_wp2_with fail
  go_ret
  exact ⟨rfl, hb5⟩
theorem wf_of_lit {n : Int} (h : (Lit.int .i64 n).wf = true) : wfT (tA n) = true := by
  have := (Lit.wf_int_iff .i64 n).1 h
  have h1 : IntKind.i64.min = -9223372036854775808 := by decide
  have h2 : IntKind.i64.max = 9223372036854775807 := by decide
  rw [h1, h2] at this
  simp [tA, wfT, wfL]
  exact this
theorem bencMakes_walk (n : Int) (s : ByteArray) (deep : Int) (w : World) (hn : wfT (tA n) = true) (hT : Tabs w w.heap.size) : Calls Tryd.prog 8 #[.int .i64 n, .string s, .int .i64 deep] w (Gives (.bool true) w) := by
  by_cases hs : s.size ≤ 4096
  · exact makes_walk n s deep w hn hs hT
  · exact makes_idle n s deep w hs hT
end Go.Proofs.YtcgcocnbjijdaaaDoor
