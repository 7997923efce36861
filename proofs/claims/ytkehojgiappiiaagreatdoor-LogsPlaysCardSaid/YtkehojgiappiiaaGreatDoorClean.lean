/- What clean of package logs does: behind the bytes that a log keeps its half has nothing, and that is sure. Conditions: a log and its disk in memory. -/
import Derived.Test.YtkehojgiappiiaaGreatDoorSettle
import Derived.Test.YtkehojgiappiiaaGreatDoorLay
set_option linter.unusedVariables false
set_option linter.unusedSimpArgs false
namespace Go.Proofs.YtkehojgiappiiaaGreatDoor
open Go Go.RowKit
def cleanR (su : List ByteArray) (l W : List (Nat × ByteArray)) : List ByteArray × List (Nat × ByteArray) := if W = [] then (su, l) else (setsP (l ++ W) su, [])
section
variable {w w' : World} {F G : Nat → Prop} {p d t f n N : Nat} {R : List (List UInt8)} {vr : Value} {st : Nat} {ad : Addr} {m c : Nat} {E : List UInt8} {su : List ByteArray} {l : List (Nat × ByteArray)}
set_option maxHeartbeats 4000000 in
set_option maxRecDepth 100000 in
theorem clean_any (hD : Disk w F d N su l) (h : LgR w G p d t f n R vr st (some ad) m c E) (ha : ∀ b, F b → ¬ G b) (hfn : f + n ≤ N) (hN : N ≤ 16384) (hmn : m ≤ 128 * n) (hl : l.length + n ≤ 900000) :
    Calls Tryz.prog 43 #[.pointer (some ⟨p, 0, none⟩)] w fun e w' => e = .returned (.int .i64 0) ∧ ∃ F', Disk w' F' d N (cleanR su l (layW (setsP l su) (f + m / 128) (n - m / 128) (E.drop (128 * (m / 128))))).1 (cleanR su l (layW (setsP l su) (f + m / 128) (n - m / 128) (E.drop (128 * (m / 128))))).2 ∧ Turn F w F' w' := by
  have hlen := h.len
  obtain ⟨k, hk⟩ : ∃ k, k = m / 128 := ⟨_, rfl⟩
  have hkz : (m : Int) / 128 = (k : Int) := by omega
  have hkm : 128 * k ≤ m := by omega
  have hkn : k ≤ n := by omega
  rw [← hk]
  obtain ⟨X, hX⟩ : ∃ X, X = E.drop (128 * k) := ⟨_, rfl⟩
  rw [← hX]
  have hXs : (⟨X.toArray⟩ : ByteArray).size ≤ 1000000000 := by show X.length ≤ _; rw [hX, List.length_drop]; omega
  have hlay := fun q => lay_any ((hD.drewN q)) f n k (n - k) ⟨X.toArray⟩ (by omega) hN (by omega) hXs
  have hln := layW_len (setsP l su) (n - k) (f + k) X
  have hlx : (⟨X.toArray⟩ : ByteArray).data.toList = X := rfl
  rw [hlx] at hlay
  rw [show ((n - k : Nat) : Int) = (n : Int) - (k : Int) by omega] at hlay
  generalize layW (setsP l su) (f + k) (n - k) X = WW at *
  have hloose := a_loose hD
  have hk8 : ((k : Int) * 128) ≤ (m : Int) := by omega
  have c1 := h.c1
  have c8 := h.c8
  have pl := h.pl
  have hmc := h.mc
  have HL := Lib.hid hlay
  have HH := Lib.hid (And.intro hD (And.intro h ha))
  have hrd := h.en
  have hc0 := h.an
  have hzl : (l.length : Int) ≤ 1000000 := by omega
  clear hD h ha hlay hk hlx hXs hlen
  unfold halfV at HL
  by_cases hck : c = 128 * k
  · obtain rfl : m = c := by omega
    have hX0 : X = [] := by rw [hX]; exact List.drop_eq_nil_of_le (by have := HH.out.2.1.len; omega)
    have hcv : ∀ w', LgR w' G p d t f n R vr st (some ad) m m E → (convert 55 9 (.slice (some ad) 0 0)).run Tryz.prog w' = .ok (.string ⟨X.toArray⟩) w' := fun w' _ => by
      rw [hX0]
      exact conv_reads (A := some ad) (B := 0) ⟨rfl, fun h => absurd h (by omega)⟩ _ 55 9 Tryz.underlying55 Tryz.underlying9
    have HC := Lib.hid hcv
    have hw1 : IntKind.i64.wrap ((k : Int) * 128) = (m : Int) := by simp only [IntKind.wrap_i64]; omega
    have hw2 : IntKind.i64.wrap ((n : Int) - (k : Int)) = (n : Int) - (k : Int) := by simp only [IntKind.wrap_i64]; omega
    clear hcv hrd hc0 hck hX hX0 hk8 hkm
    go_enter Tryz.func43, Tryz.ntmps43
    go_wp2_with fail
    refine hloose.mono ?_
    rintro e w1 ⟨rfl, q, rfl⟩
    have c3 := (HH.out.2.1.drewN q).c3
    have c4 := (HH.out.2.1.drewN q).c4
    have c5 := (HH.out.2.1.drewN q).c5
    have c8 := (HH.out.2.1.drewN q).c8
    go_wp2_with fail
    go_region_held3 (fun w' => w'.cell? ⟨p, 3, none⟩ = some (.pointer (some ⟨d, 0, none⟩)) ∧ w'.cell? ⟨p, 4, none⟩ = some (.int .i64 (f : Int)) ∧ w'.cell? ⟨p, 5, none⟩ = some (.int .i64 (n : Int)) ∧ w'.cell? ⟨p, 8, none⟩ = some (.slice (some ad) m m) ∧ (convert 55 9 (.slice (some ad) 0 0)).run Tryz.prog w' = .ok (.string ⟨X.toArray⟩) w')
      (first | exact ⟨d3, d4, d5, d8, dcv⟩ | exact ⟨c3, c4, c5, c8, HC.out _ (HH.out.2.1.drewN (q + 1))⟩)
      ((go_at_call 23; refine (HL.out (q + 1)).mono ?_; rintro e w5 ⟨rfl, F5, hD5, hT5⟩; have H5 := (HH.out.2.1.drewN (q + 1)).turn hT5 HH.out.2.2; have d3 := H5.c3; have d4 := H5.c4; have d5 := H5.c5; have d8 := H5.c8; have dcv := HC.out _ H5))
    have d1 := H5.c1
    have H5' := Lib.hid (And.intro hD5 ((Turn.drewN F w (q + 1)).trans hT5))
    have hl5 := a_loose hD5
    clear hD5 hT5 H5 c3 c4 c5 c8 d3 d4 d5 d8 dcv
    rw [List.length_append] at hl5
    by_cases hW : WW = []
    · have hr : cleanR su l WW = (su, l) := by unfold cleanR; rw [if_pos hW]
      subst hW
      rw [List.append_nil] at H5'
      rw [List.length_nil, Nat.add_zero] at hl5
      have HR := Lib.hid hr
      clear hr
      go_wp2_with fail
      refine hl5.mono ?_
      rintro e w6 ⟨rfl, q6, rfl⟩
      go_wp2_with fail
      go_ret
      rw [HR.out]
      exact ⟨rfl, F5, H5'.out.1.drewN q6, H5'.out.2.trans (Turn.drewN F5 w5 q6)⟩
    · have hr : cleanR su l WW = (setsP (l ++ WW) su, []) := by unfold cleanR; rw [if_neg hW]
      have hpos : 0 < WW.length := List.length_pos_iff.2 hW
      have hwz : ¬ ((l.length + WW.length : Nat) : Int) = (l.length : Int) := by omega
      have hsy := fun q6 => a_sync (H5'.out.1.drewN q6) (by rw [List.length_append]; omega)
      have HR := Lib.hid hr
      have HS := Lib.hid hsy
      clear hr hsy hW hpos
      generalize l.length + WW.length = lw at *
      go_wp2_with fail
      refine hl5.mono ?_
      rintro e w6 ⟨rfl, q6, rfl⟩
      go_wp2_with fail
      refine (HS.out q6).mono ?_
      rintro e w7 ⟨rfl, hD7, hT7⟩
      go_wp2_with fail
      go_ret
      rw [HR.out]
      exact ⟨rfl, F5, hD7, H5'.out.2.trans ((Turn.drewN F5 w5 q6).trans hT7)⟩
  · have hcv : ∀ w', LgR w' G p d t f n R vr st (some ad) m c E → (convert 55 9 (.slice (some (ad.add (k * 128))) (m - k * 128) (c - k * 128))).run Tryz.prog w' = .ok (.string ⟨X.toArray⟩) w' := fun w' hw' => by
      have hrc := hw'.en.cut (k := 128 * k) (cap := c) (by omega) hmc.1
      rw [if_neg hck, Nat.mul_one, byteCells_drop, Option.map_some, ← hX, show 128 * k = k * 128 by omega] at hrc
      exact conv_reads hrc (c - k * 128) 55 9 Tryz.underlying55 Tryz.underlying9
    have HC := Lib.hid hcv
    have hck2 : ¬ c = k * 128 := by omega
    have hw1 : IntKind.i64.wrap ((k : Int) * 128) = (k : Int) * 128 := by simp only [IntKind.wrap_i64]; omega
    have hw2 : IntKind.i64.wrap ((n : Int) - (k : Int)) = (n : Int) - (k : Int) := by simp only [IntKind.wrap_i64]; omega
    have hb1 : (0 : Int) ≤ (k : Int) * 128 := by omega
    have hb2 : (k : Int) * 128 ≤ (c : Int) := by omega
    have hb3 : ((k : Int) * 128).toNat = k * 128 := by omega
    clear hcv hrd hc0 hck hX
    go_enter Tryz.func43, Tryz.ntmps43
    go_wp2_with fail
    refine hloose.mono ?_
    rintro e w1 ⟨rfl, q, rfl⟩
    have c3 := (HH.out.2.1.drewN q).c3
    have c4 := (HH.out.2.1.drewN q).c4
    have c5 := (HH.out.2.1.drewN q).c5
    have c8 := (HH.out.2.1.drewN q).c8
    go_wp2_with fail
    go_region_held3 (fun w' => w'.cell? ⟨p, 3, none⟩ = some (.pointer (some ⟨d, 0, none⟩)) ∧ w'.cell? ⟨p, 4, none⟩ = some (.int .i64 (f : Int)) ∧ w'.cell? ⟨p, 5, none⟩ = some (.int .i64 (n : Int)) ∧ w'.cell? ⟨p, 8, none⟩ = some (.slice (some ad) m c) ∧ (convert 55 9 (.slice (some (ad.add (k * 128))) (m - k * 128) (c - k * 128))).run Tryz.prog w' = .ok (.string ⟨X.toArray⟩) w')
      (first | exact ⟨d3, d4, d5, d8, dcv⟩ | exact ⟨c3, c4, c5, c8, HC.out _ (HH.out.2.1.drewN (q + 1))⟩)
      ((go_at_call 23; refine (HL.out (q + 1)).mono ?_; rintro e w5 ⟨rfl, F5, hD5, hT5⟩; have H5 := (HH.out.2.1.drewN (q + 1)).turn hT5 HH.out.2.2; have d3 := H5.c3; have d4 := H5.c4; have d5 := H5.c5; have d8 := H5.c8; have dcv := HC.out _ H5))
    have d1 := H5.c1
    have H5' := Lib.hid (And.intro hD5 ((Turn.drewN F w (q + 1)).trans hT5))
    have hl5 := a_loose hD5
    clear hD5 hT5 H5 c3 c4 c5 c8 d3 d4 d5 d8 dcv
    rw [List.length_append] at hl5
    by_cases hW : WW = []
    · have hr : cleanR su l WW = (su, l) := by unfold cleanR; rw [if_pos hW]
      subst hW
      rw [List.append_nil] at H5'
      rw [List.length_nil, Nat.add_zero] at hl5
      have HR := Lib.hid hr
      clear hr
      go_wp2_with fail
      refine hl5.mono ?_
      rintro e w6 ⟨rfl, q6, rfl⟩
      go_wp2_with fail
      go_ret
      rw [HR.out]
      exact ⟨rfl, F5, H5'.out.1.drewN q6, H5'.out.2.trans (Turn.drewN F5 w5 q6)⟩
    · have hr : cleanR su l WW = (setsP (l ++ WW) su, []) := by unfold cleanR; rw [if_neg hW]
      have hpos : 0 < WW.length := List.length_pos_iff.2 hW
      have hwz : ¬ ((l.length + WW.length : Nat) : Int) = (l.length : Int) := by omega
      have hsy := fun q6 => a_sync (H5'.out.1.drewN q6) (by rw [List.length_append]; omega)
      have HR := Lib.hid hr
      have HS := Lib.hid hsy
      clear hr hsy hW hpos
      generalize l.length + WW.length = lw at *
      go_wp2_with fail
      refine hl5.mono ?_
      rintro e w6 ⟨rfl, q6, rfl⟩
      go_wp2_with fail
      refine (HS.out q6).mono ?_
      rintro e w7 ⟨rfl, hD7, hT7⟩
      go_wp2_with fail
      go_ret
      rw [HR.out]
      exact ⟨rfl, F5, hD7, H5'.out.2.trans ((Turn.drewN F5 w5 q6).trans hT7)⟩
end
end Go.Proofs.YtkehojgiappiiaaGreatDoor
