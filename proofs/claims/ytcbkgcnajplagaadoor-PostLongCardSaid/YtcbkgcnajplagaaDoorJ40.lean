/- PostLong returns true. Conditions: the tables lie as start-up lays them. -/
import Derived.Test.YtcbkgcnajplagaaDoorJ29
import Derived.Deep.OwnRows
import Derived.Laws.IdiomStrings
import Derived.Laws.BitsAllLaws
import Derived.Deep.Cut
import Derived.Deep.CutRange
set_option linter.unusedVariables false
set_option linter.unusedSimpArgs false
set_option maxRecDepth 100000
namespace Go.Proofs.YtcbkgcnajplagaaDoor.Po
open Go Go.RowKit
open Be (T kindsOk kindsOkL deepT deepL wfT wfL tidy tidyL onlyRes takeRes gdT RdL Rd RdA ReadsP Keeps)
theorem i64_and3 (n : Int) : bits .and .i64 n 3 = n % 4 := by
  have hm : (BitVec.ofInt 64 3).toNat = 2 ^ 2 - 1 := by decide
  have key : (BitVec.ofInt 64 n &&& BitVec.ofInt 64 3).toNat = (n % ((2 ^ 64 : Nat) : Int)).toNat % 2 ^ 2 := by
    rw [BitVec.toNat_and, BitVec.toNat_ofInt, hm, Nat.and_two_pow_sub_one_eq_mod]
  show IntKind.i64.wrap ((BitVec.ofInt 64 n &&& BitVec.ofInt 64 3).toNat : Nat) = n % 4
  rw [key, IntKind.wrap_i64]
  omega
def zS (n : Nat) : ByteArray := ⟨(List.replicate n (0 : UInt8)).toArray⟩
theorem zS_size (n : Nat) : (zS n).size = n := by
  show (List.replicate n (0 : UInt8)).toArray.size = n
  simp
theorem row_z (w : World) (n : Nat) : (convert 40 9 (.slice (some ⟨w.heap.size, 0, none⟩) n n)).run Tryd.prog (w.alloc (.cells (madeCells #[.int .u8 0] n) 5)) = .ok (.string (zS n)) (w.alloc (.cells (madeCells #[.int .u8 0] n) 5)) := by
  have h := run_convert_bytes_back (P := Tryd.prog) (w.alloc (.cells (madeCells #[.int .u8 0] n) 5)) 40 9 5 ⟨w.heap.size, 0, none⟩ n (List.replicate n 0) Tryd.underlying40 Tryd.underlying5 Tryd.underlying9 (fun j hj => by
    have hj2 : j < n := by simpa using hj
    rw [add_flat, Nat.zero_add, World.cell?_alloc_mark]
    simp [madeCells, hj2, Nat.mod_one])
  rw [List.length_replicate] at h
  exact h
theorem made2 (a : Value) (N : Nat) : (madeCells #[a, a] N).toList = List.replicate N a := by
  simp only [madeCells, Array.toList_map, Array.toList_range]
  refine List.ext_getElem (by simp) fun i h1 h2 => ?_
  simp
  rcases Nat.mod_two_eq_zero_or_one i with h | h <;> simp [h]
theorem hits_rep : ∀ n, hits (List.replicate n (0, 0)) = List.replicate (n * 2) (.int .i64 0)
  | 0 => rfl
  | n + 1 => by
    rw [List.replicate_succ, show (n + 1) * 2 = n * 2 + 1 + 1 by omega, List.replicate_succ, List.replicate_succ, ← hits_rep n]
    rfl
theorem made_hits (n : Nat) : madeCells #[.int .i64 0, .int .i64 0] (n * 2) = (hits (List.replicate n (0, 0))).toArray := by
  refine Array.toList_inj.1 ?_
  rw [made2, hits_rep]
theorem make_hits (n : Nat) (h : n ≤ 1000) (w : World) : (Instr.makeSlice 26 (.int .i64 (n : Int)) (.int .i64 (n : Int))).run Tryd.prog w = .ok (.slice (some ⟨w.heap.size, 0, none⟩) n n) (w.alloc (.cells (hits (List.replicate n (0, 0))).toArray 52)) := by
  obtain ⟨i0, hi, hz0, hz1, hz2⟩ := info_parts hit_row
  have := run_make (P := Tryd.prog) w 26 52 i0 (hitV (0, 0)) Tryd.underlying26 hi hz0 .i64 .i64 (n : Int) (n : Int) (by omega) (Int.le_refl _) (by rw [hz2]; omega) (by omega)
  rw [hz1, Int.toNat_natCast] at this
  rw [this, ← made_hits]
  rfl
theorem reads_row {w : World} {g size n : Nat} {T : TypeId} {xs : List Value} (h : Row w g T xs) (hl : xs.length = n * size) : Reads w w.heap.size size (some ⟨g, 0, none⟩) n xs :=
  ⟨hl, fun _ => ⟨_, rfl, h.lt, fun j u hu => by rw [add_flat, Nat.zero_add]; exact h.cell hu⟩⟩
theorem reads_set_ne' {w : World} {B size n : Nat} {A : Option Addr} {xs : List Value} (h : Reads w B size A n xs) {p : Addr} (hp : ∀ ad, A = some ad → ad.block ≠ p.block) (u : Value) : Reads (w.setCell p u) B size A n xs :=
  ⟨h.1, fun hn => by
    obtain ⟨ad, e, hb, hc⟩ := h.2 hn
    exact ⟨ad, e, hb, fun j v hv => (World.cell?_setCell_other w p (ad.add j) u (fun e2 => by have := hp ad e; rw [e2] at this; rw [block_of_add] at this; exact this rfl)).trans (hc j v hv)⟩⟩
/-- The message with a long text and many hits. -/
def lM (K q : Nat) : M := ⟨3, 3, 7, 0, 0, 9, 0, 5, 3, 0, 4, [1, -2], 0, false, List.replicate q (0, 0), zS K⟩
theorem lM_fit (K q : Nat) : FitM (lM K q) := ⟨(⟨by decide, by decide⟩ : S64 0), fun x hx => by
  have := List.eq_of_mem_replicate hx
  subst this
  exact ⟨by decide, by decide⟩⟩
theorem lM_hs (K q : Nat) (h : q ≤ 64) : okHs (lM K q).hs = true := by
  rw [okHs_iff]
  exact ⟨by simpa [lM] using h, fun x hx => by
    have := List.eq_of_mem_replicate hx
    subst this
    exact ⟨by decide, by decide⟩⟩
theorem lM_yes {K : Nat} (h : K ≤ 262144) : mayM (lM K 64) = true := by
  rw [mayM_iff]
  exact ⟨(by decide : W40 7), (by decide : W40 0), (by decide : W40 0), (by decide : W40 9), (by decide : W40 0), (by decide : W40 5), lM_hs K 64 (Nat.le_refl _), (by decide : (1 : Int) ≤ 3 ∧ (3 : Int) ≤ 19), (by decide : (0 : Int) ≤ 3 ∧ (3 : Int) ≤ 15), (by decide : okVs [1, -2] = true), (by decide : (0 : Int) ≤ 3 ∧ (3 : Int) ≤ 3), (by decide : (0 : Int) ≤ 4 ∧ (4 : Int) ≤ 64), (by decide : (0 : Int) ≤ 0 ∧ (0 : Int) ≤ 255), by show (zS K).size ≤ 262144; rw [zS_size]; exact h⟩
theorem lM_no {K : Nat} (h : 262144 < K) : mayM (lM K 64) = false := by
  rw [Bool.eq_false_iff]
  intro hm
  have := (mayM_iff.1 hm).2.2.2.2.2.2.2.2.2.2.2.2.2
  have h2 : (zS K).size ≤ 262144 := this
  rw [zS_size] at h2
  omega
theorem lM_many (K : Nat) : mayM (lM K 65) = false := by
  rw [Bool.eq_false_iff]
  intro hm
  have := (mayM_iff.1 hm).2.2.2.2.2.2.1
  rw [okHs_iff] at this
  have h2 := this.1
  simp [lM] at h2
set_option maxHeartbeats 16000000 in
theorem long_main (more : Int) (K : Nat) (r : Int) (hr : more % 4 = r) (hK : 262143 + r = (K : Int)) {w : World} (hT : Four w) :
    Calls Tryd.prog 7 #[.int .i64 more] w (Gives (.bool true) w) := by
  have hr0 : 0 ≤ r ∧ r ≤ 3 := by omega
  have hb3 : bits .and .i64 more 3 = r := by rw [i64_and3]; exact hr
  have hKl : K ≤ 262146 := by omega
  have hmk : ∀ w : World, (Instr.makeSlice 40 (.int .i64 (K : Int)) (.int .i64 (K : Int))).run Tryd.prog w = .ok (.slice (some ⟨w.heap.size, 0, none⟩) K K) (w.alloc (.cells (madeCells #[.int .u8 0] K) 5)) := run_make_row' (P := Tryd.prog) 40 5 (.int .u8 0) 1 Tryd.underlying40 byte_row rfl .i64 .i64 K (by omega) (by omega)
  have HS := Lib.hid (some_any w)
  have hr1 := hr0.1
  have hr2 := hr0.2
  have HT := Lib.hid hT
  clear hT hr hr0
  go_enter Tryd.func7, Tryd.ntmps7
  go_wp2_with fail
  refine HS.out.mono ?_
  intro en w1 hpost
  unfold SomePost at hpost
  obtain ⟨A, rfl, hR, hb1⟩ := hpost
  obtain ⟨V, hV⟩ : ∃ V, V = w1.alloc (.cells (msgV sM A 2 2 none 0 0).toArray 30) := ⟨_, rfl⟩
  have hbV : Below w1.heap.size w1 V := by rw [hV]; exact (Below.refl _ w1).alloc (Nat.le_refl _) _
  have rV : Row V w1.heap.size 30 (msgV sM A 2 2 none 0 0) := by rw [hV]; exact Row.new w1 _ _
  have hcv := row_z V K
  have HV := Lib.hid hV
  have HNA := Lib.hid (show ∀ ad, A = some ad → ad.block ≠ w1.heap.size from fun ad e => by
    obtain ⟨ad', e', hb', _⟩ := hR.2 (by omega)
    rw [e] at e'
    injection e' with e'
    subst e'
    omega)
  have HX := Lib.hid (And.intro rV (And.intro (hb1.trans (hbV.mono hb1.size)) (And.intro (hR.below hbV) hb1.size)))
  have c14 := rV.cell (j := 14) rfl
  have c15 := rV.cell (j := 15) rfl
  have z14 := rV.frozen 14
  have z15 := rV.frozen 15
  have lv := rV.lt
  clear hb1 hR hV hbV rV
  unfold msgV sM
  unfold msgV sM at HV
  go_upto_region 3 with fail
  rw [← HV.out]
  go_upto_region 4 with fail
  obtain ⟨V2, hV2⟩ : ∃ V2, (V.setCell ⟨w1.heap.size, 15, none⟩ (.string (zS K))).alloc (.cells (madeCells #[.int .u8 0] K) 5) = V2 := ⟨_, rfl⟩
  have hb2 : Below w1.heap.size V V2 := by rw [← hV2]; exact (below_setCell (Below.refl _ V) (p := ⟨w1.heap.size, 15, none⟩) (Nat.le_refl _) _).alloc (by simp; omega) _
  have r2 : Row V2 w1.heap.size 30 (msgV { sM with tx := zS K } A 2 2 none 0 0) := by
    rw [← hV2]
    exact (HX.out.1.set 15 (.string (zS K))).keep (heap_alloc_lt _ _ (by simp; exact HX.out.1.lt))
  rw [hV2]
  have HX2 := Lib.hid (show Row V2 w1.heap.size 30 (msgV { sM with tx := zS K } A 2 2 none 0 0) ∧ Below w.heap.size w V2 ∧ Reads V2 w1.heap.size 1 A 2 (ints [1, -2]) ∧ w.heap.size ≤ w1.heap.size from
    ⟨r2, HX.out.2.1.trans (hb2.mono (by have := HX.out.2.2.2; omega)), HX.out.2.2.1.below hb2, HX.out.2.2.2⟩)
  clear c14 c15 z14 z15 lv hV2 hb2 hcv hmk
  have c14 := r2.cell (j := 14) rfl
  have z14 := r2.frozen 14
  have lv := r2.lt
  clear r2
  have hmk : (Instr.makeSlice 26 (.int .i64 64) (.int .i64 64)).run Tryd.prog V2 = .ok (.slice (some ⟨V2.heap.size, 0, none⟩) 64 64) (V2.alloc (.cells (hits (List.replicate 64 (0, 0))).toArray 52)) := make_hits 64 (by omega) V2
  generalize hHC : (hits (List.replicate 64 (0, 0))).toArray = HC at hmk
  have HHC := Lib.hid hHC
  clear hHC
  go_upto_region 5 with fail
  obtain ⟨V5, hV5⟩ : ∃ V5, (V2.setCell ⟨w1.heap.size, 14, none⟩ (.slice (some ⟨V2.heap.size, 0, none⟩) 64 64)).alloc (.cells HC 52) = V5 := ⟨_, rfl⟩
  have hb5 : Below w1.heap.size V2 V5 := by rw [← hV5]; exact (below_setCell (Below.refl _ V2) (p := ⟨w1.heap.size, 14, none⟩) (Nat.le_refl _) _).alloc (by simp; omega) _
  have r5 : Row V5 w1.heap.size 30 (msgV (lM K 64) A 2 2 (some ⟨V2.heap.size, 0, none⟩) 64 64) := by
    rw [← hV5]
    exact (HX2.out.1.set 14 (.slice (some ⟨V2.heap.size, 0, none⟩) 64 64)).keep (heap_alloc_lt _ _ (by simp; exact HX2.out.1.lt))
  have rh : Row V5 V2.heap.size 52 (hits (List.replicate 64 (0, 0))) := by
    have := Row.new (V2.setCell ⟨w1.heap.size, 14, none⟩ (.slice (some ⟨V2.heap.size, 0, none⟩) 64 64)) 52 (hits (List.replicate 64 (0, 0)))
    rw [HHC.out, hV5] at this
    simpa using this
  rw [hV5]
  have hbw5 : Below w.heap.size w V5 := HX2.out.2.1.trans (hb5.mono HX2.out.2.2.2)
  have hA5 : Reads V5 V5.heap.size 1 A 2 (ints [1, -2]) := (HX2.out.2.2.1.below hb5).more (Nat.le_of_lt r5.lt)
  have hH5 := reads_row rh (by rw [hits_len]; simp : _ = 64 * 2)
  have hp := put_any (c := 2) (c' := 64) (lM K 64) (lM_fit K 64) hA5 hH5 (Nat.le_refl _) (by omega) (by omega) (HT.out.on hbw5)
  have HX5 := Lib.hid (And.intro r5 (And.intro hbw5 (And.intro hA5 HX2.out.2.2.2)))
  clear c14 z14 lv hV5 hb5 r5 rh hbw5 hA5 hH5 hmk
  have hmk65 : ∀ W, (Instr.makeSlice 26 (.int .i64 65) (.int .i64 65)).run Tryd.prog W = .ok (.slice (some ⟨W.heap.size, 0, none⟩) 65 65) (W.alloc (.cells (hits (List.replicate 65 (0, 0))).toArray 52)) := fun W => make_hits 65 (by omega) W
  generalize hHD : (hits (List.replicate 65 (0, 0))).toArray = HD at hmk65
  have HHD := Lib.hid hHD
  clear hHD
  by_cases hk : K ≤ 262144
  · as_aux_lemma =>
    have hr3 : ¬ (1 : Int) < r := by omega
    have hmay := lM_yes hk
    have htm := takeM_txt hmay (lM_fit K 64)
    have htx : txP (lM K 64) = txtB (lM K 64) := by unfold txP; rw [if_pos hmay]
    have hle := txt_le hmay (lM_fit K 64)
    rw [eM_t hmay, htx] at hp
    generalize txtB (lM K 64) = X at *
    have HP := Lib.hid hp
    have HTM := Lib.hid htm
    have HKN := Lib.hid hk
    clear hmay htx hp htm hk
    go_wp2_with (refine ld_msg HX5.out.1 rfl rfl _ rfl rfl ?_)
    refine HP.out.mono ?_
    rintro en w6 ⟨rfl, hb6⟩
    have hbw6 := HX5.out.2.1.trans (hb6.mono HX5.out.2.1.size)
    have htk := take_any X (by omega) (HT.out.on hbw6)
    rw [HTM.out] at htk
    have HTK := Lib.hid htk
    have HX6 := Lib.hid (And.intro (HX5.out.1.keep (hb6.block _ HX5.out.1.lt)) (And.intro hbw6 (HX5.out.2.2.1.below hb6)))
    have hs6 := hb6.size
    clear hb6 hbw6 htk
    go_wp2_with fail
    refine HTK.out.mono ?_
    intro en w7 hpost
    unfold TkPost at hpost
    obtain ⟨hb7, A7, n7, c7, A7', n7', c7', rfl, hR7, hR7', _, _⟩ := hpost
    obtain rfl : n7' = 64 := by have := hR7'.hits_len; simpa [lM] using this
    obtain ⟨V7, hV7⟩ : ∃ V7, V7 = w7.alloc (.cells (msgV (lM K 64) A7 n7 c7 A7' 64 c7').toArray 30) := ⟨_, rfl⟩
    have hb7' : Below w6.heap.size w6 V7 := by rw [hV7]; exact hb7.alloc hb7.size _
    have r7 : Row V7 w7.heap.size 30 (msgV (lM K 64) A7 n7 c7 A7' 64 c7') := by rw [hV7]; exact Row.new w7 _ _
    have rp := HX6.out.1.keep (hb7'.block _ HX6.out.1.lt)
    have hne : w1.heap.size < w7.heap.size := by have := HX6.out.1.lt; have := hb7.size; omega
    have HV7 := Lib.hid hV7
    have HX7 := Lib.hid (show Row V7 w1.heap.size 30 (msgV (lM K 64) A 2 2 (some ⟨V2.heap.size, 0, none⟩) 64 64) ∧ Row V7 w7.heap.size 30 (msgV (lM K 64) A7 n7 c7 A7' 64 c7') ∧ Below w.heap.size w V7 ∧ Reads V7 V7.heap.size 1 A 2 (ints [1, -2]) ∧ w.heap.size ≤ w1.heap.size from
      ⟨rp, r7, HX6.out.2.1.trans (hb7'.mono HX6.out.2.1.size), ((HX6.out.2.2.more hs6).below hb7').more hb7'.size, HX5.out.2.2.2⟩)
    clear hb7 hb7' hV7 hR7 hR7' r7 rp HTK
    have c14 := HX7.out.1.cell (j := 14) rfl
    have z14 := HX7.out.1.frozen 14
    have lv := HX7.out.1.lt
    have hmkV := hmk65 V7
    unfold msgV lM
    unfold msgV lM at HV7
    go_upto_region 9 with fail
    rw [← HV7.out]
    go_upto_region 10 with fail
    obtain ⟨V9, hV9⟩ : ∃ V9, (V7.setCell ⟨w1.heap.size, 14, none⟩ (.slice (some ⟨V7.heap.size, 0, none⟩) 65 65)).alloc (.cells HD 52) = V9 := ⟨_, rfl⟩
    have hb9 : Below w1.heap.size V7 V9 := by rw [← hV9]; exact (below_setCell (Below.refl _ V7) (p := ⟨w1.heap.size, 14, none⟩) (Nat.le_refl _) _).alloc (by simp; omega) _
    have r9 : Row V9 w1.heap.size 30 (msgV (lM K 65) A 2 2 (some ⟨V7.heap.size, 0, none⟩) 65 65) := by
      rw [← hV9]
      exact (HX7.out.1.set 14 (.slice (some ⟨V7.heap.size, 0, none⟩) 65 65)).keep (heap_alloc_lt _ _ (by simp; exact HX7.out.1.lt))
    have rh : Row V9 V7.heap.size 52 (hits (List.replicate 65 (0, 0))) := by
      have := Row.new (V7.setCell ⟨w1.heap.size, 14, none⟩ (.slice (some ⟨V7.heap.size, 0, none⟩) 65 65)) 52 (hits (List.replicate 65 (0, 0)))
      rw [HHD.out, hV9] at this
      simpa using this
    have rm9 : Row V9 w7.heap.size 30 (msgV (lM K 64) A7 n7 c7 A7' 64 c7') := by
      rw [← hV9]
      exact (HX7.out.2.1.keep (heap_set_ne _ _ _ (by show w7.heap.size ≠ w1.heap.size; omega))).keep (heap_alloc_lt _ _ (by simp; exact HX7.out.2.1.lt))
    have hA9 : Reads V9 V9.heap.size 1 A 2 (ints [1, -2]) := by
      rw [← hV9]
      refine ((reads_set_ne' HX7.out.2.2.2.1 (p := ⟨w1.heap.size, 14, none⟩) ?_ _).alloc (by simp) _).more (by simp)
      exact HNA.out
    have hH9 := reads_row rh (by rw [hits_len]; simp : _ = 65 * 2)
    have hbw9 := HX7.out.2.2.1.trans (hb9.mono HX7.out.2.2.2.2)
    have hc := check_any (c := 2) (c' := 65) (lM K 65) (lM_fit K 65).1 hA9 hH9 (Nat.le_refl _) (by simp [maxLen]) (by simp [maxLen])
    rw [eM_f (lM_many K)] at hc
    unfold msgV lM at hc
    have HC9 := Lib.hid hc
    have HB9 := Lib.hid hbw9
    rw [hV9]
    clear c14 z14 lv hmkV hmk65 hV9 hb9 rh hA9 hH9 hbw9 hc
    have q2 := r9
    have k0 := q2.cell (j := 0) rfl
    have k1 := q2.cell (j := 1) rfl
    have k2 := q2.cell (j := 2) rfl
    have k3 := q2.cell (j := 3) rfl
    have k4 := q2.cell (j := 4) rfl
    have k5 := q2.cell (j := 5) rfl
    have k6 := q2.cell (j := 6) rfl
    have k7 := q2.cell (j := 7) rfl
    have k8 := q2.cell (j := 8) rfl
    have k9 := q2.cell (j := 9) rfl
    have k10 := q2.cell (j := 10) rfl
    have k11 := q2.cell (j := 11) rfl
    have k12 := q2.cell (j := 12) rfl
    have k13 := q2.cell (j := 13) rfl
    have k14 := q2.cell (j := 14) rfl
    have k15 := q2.cell (j := 15) rfl
    have kl := q2.lt
    clear q2
    have m14 := rm9.cell (j := 14) rfl
    have m15 := rm9.cell (j := 15) rfl
    have ml := rm9.lt
    unfold lM at k0 k1 k2 k3 k4 k5 k6 k7 k8 k9 k10 k11 k12 k13 k14 k15 m14 m15
    clear r9 rm9
    generalize zS K = Z at *
    go_wp2_with fail
    refine HC9.out.mono ?_
    rintro en w10 ⟨rfl, hb10⟩
    have hb := below_then HB9.out hb10
    have HA := Lib.hid (awake_any w10 (HT.out.on hb))
    have HB10 := Lib.hid hb
    clear hb10 hb
    go_wp2_with fail
    refine HA.out.mono ?_
    rintro en w11 ⟨rfl, hb11⟩
    go_wp2_with fail
    go_ret
    exact ⟨rfl, below_then HB10.out hb11⟩
  · as_aux_lemma =>
    have hr3 : (1 : Int) < r := by omega
    have hmay := lM_no (K := K) (by omega)
    have htx : txP (lM K 64) = ⟨#[]⟩ := by unfold txP; rw [hmay]; rfl
    rw [eM_f hmay, htx] at hp
    have HP := Lib.hid hp
    clear hmay htx hp hk
    go_wp2_with (refine ld_msg HX5.out.1 rfl rfl _ rfl rfl ?_)
    refine HP.out.mono ?_
    rintro en w6 ⟨rfl, hb6⟩
    have HB6 := Lib.hid (HX5.out.2.1.trans (hb6.mono HX5.out.2.1.size))
    have HA := Lib.hid (awake_any w6 (HT.out.on HB6.out))
    clear hb6
    go_wp2_with fail
    refine HA.out.mono ?_
    rintro en w7 ⟨rfl, hb7⟩
    go_wp2_with fail
    go_ret
    exact ⟨rfl, below_then HB6.out hb7⟩
theorem postLong_walk (more : Int) {w : World} (hT : Four w) : Calls Tryd.prog 7 #[.int .i64 more] w (Gives (.bool true) w) :=
  long_main more (262143 + more % 4).toNat (more % 4) rfl (by omega) hT
end Go.Proofs.YtcbkgcnajplagaaDoor.Po
