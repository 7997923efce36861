/- What awake of the statements returns: true. Conditions: the tables lie as start-up lays them. -/
import Derived.Test.YtkehojgiappiiaaGreatDoorBegun
set_option linter.unusedVariables false
set_option linter.unusedSimpArgs false
namespace Go.Proofs.YtkehojgiappiiaaGreatDoor
open Go Go.RowKit
section
variable {w w' : World} {F G F' G' : Nat → Prop} {p d N t st B : Nat} {R : List (List UInt8)} {sr : Nat} {su : List ByteArray} {l : List (Nat × ByteArray)}
theorem logf_add (h : LogF w B F G p d N t st R sr su l) (r : List UInt8) (hr : r.length ≤ 32768) (hfit : (encs R).length + (r.length + 14) ≤ 128 * hB N t) (hl : l.length ≤ 900000) : Calls Tryz.prog 8 #[.pointer (some ⟨p, 0, none⟩), .string ⟨r.toArray⟩] w fun e w' =>
    e = .returned (.int .i64 0) ∧ ∃ F' G' l', LogF w' B F' G' p d N t st (R ++ [r]) sr su l' ∧ l'.length ≤ l.length + 300 ∧ Below B w w' := by
  refine (add_ok h.log r hr hfit hl h.tab.t1).mono ?_
  rintro e w' ⟨rfl, F', G', l', hL, hl', hT⟩
  obtain ⟨h1, h2⟩ := h.next hL hT
  exact ⟨rfl, F', G', l', h1, hl', h2⟩
theorem LogF.lt (h : LogF w B F G p d N t st R sr su l) : ∀ b, Un F G b → b < w.heap.size := fun b hb => by
  obtain ⟨vr, A, m, c, hM⟩ := h.log.mem
  exact hb.elim (h.log.disk.lt b) (hM.lt b)
theorem logf_flush (h : LogF w B F G p d N t st R sr su l) (hl : l.length ≤ 900000) : Calls Tryz.prog 9 #[.pointer (some ⟨p, 0, none⟩)] w fun e w' =>
    e = .returned (.int .i64 0) ∧ ∃ F' G' st' su', LogF w' B F' G' p d N t st' R R.length su' [] ∧ Below B w w' := by
  refine (flush_any h.log hl).mono ?_
  rintro e w' ⟨rfl, F', G', st', hL, hT⟩
  obtain ⟨h1, h2⟩ := h.next hL hT
  exact ⟨rfl, F', G', st', _, h1, h2⟩
theorem logf_anew (h : LogF w B F G p d N t st R sr su l) (ht : t + 1 ≤ 1000000) (rs : List (List UInt8)) (A0 : Option Addr) (n0 c0 : Nat) (hR : Reads w w.heap.size 1 A0 n0 (strL rs)) (hA0 : ∀ ad, A0 = some ad → 0 < n0 → ¬ Un F G ad.block) (hn0 : n0 ≤ maxLen) (hs : ∀ r ∈ rs, r.length ≤ 32768) (hfit : (encs rs).length ≤ 128 * hB N (t + 1)) (hl : l.length ≤ 900000) (hP : Tabs w B) :
    Calls Tryz.prog 11 #[.pointer (some ⟨p, 0, none⟩), .slice A0 n0 c0] w fun e w' => e = .returned (.int .i64 0) ∧ ∃ F' G' st' su', LogF w' B F' G' p d N (t + 1) st' rs rs.length su' [] ∧ Below B w w' := by
  refine (anew_ok h.log ht rs A0 n0 c0 hR hA0 hn0 hs hfit hl h.tab hP h.far).mono ?_
  rintro e w' ⟨rfl, F', G', st', su', hL, hT⟩
  obtain ⟨h1, h2⟩ := h.next hL hT
  exact ⟨rfl, F', G', st', su', h1, h2⟩
end
theorem two_reads (w : World) (r : List UInt8) (B : Nat) (hB : w.heap.size < B) : Reads (w.alloc (.cells #[.string ⟨r.toArray⟩] 9)) B 1 (some ⟨w.heap.size, 0, none⟩) 1 (strL [r]) := (one_reads w r).more hB
set_option maxHeartbeats 8000000 in
set_option maxRecDepth 100000 in
theorem awake_any {B : Nat} (w : World) (hT : Tab w B) : Calls Tryz.prog 6 #[] w fun e w' => e = .returned (.bool true) ∧ Below B w w' := by
  have hb0 := begun_any 10 (by decide) (by decide) w hT
  have HB := Lib.hid hb0
  have h10 : hB 10 0 = 4 := by decide
  have e1 : (encs ([] ++ [[(97 : UInt8)]])).length = 15 := by decide
  have e2 : (encs ([] ++ [[(97 : UInt8)]] ++ [[(98 : UInt8)]])).length = 30 := by decide
  have H10 := Lib.hid (And.intro h10 (And.intro e1 e2))
  clear hb0 h10 e1 e2
  rw [show ((10 : Nat) : Int) = 10 from rfl] at HB
  go_enter Tryz.func6, Tryz.ntmps6
  go_wp2_with fail
  refine HB.out.mono ?_
  rintro e w1 ⟨p, d, F1, G1, st1, su1, rfl, h1, hb1⟩
  have hr1 := logf_room h1 512 (by rw [H10.out.1]; rfl)
  have HR1 := Lib.hid hr1
  clear hr1 HB
  go_wp2_with fail
  refine HR1.out.mono ?_
  rintro e w2 ⟨rfl, hb2⟩
  have h2 := h1.below hb2
  have hb2' := hb1.trans (hb2.mono (B' := B) h1.tab.le)
  have ha2 := logf_add h2 [97] (by decide) (by rw [H10.out.1]; decide) (by decide)
  have HA2 := Lib.hid ha2
  clear ha2 h1 hb1 hb2 HR1 h2
  go_wp2_with fail
  refine HA2.out.mono ?_
  rintro e w3 ⟨rfl, F3, G3, l3, h3, hl3, hb3⟩
  have hb3' := hb2'.trans hb3
  have hf3 := logf_flush h3 (by simp at hl3; omega)
  have HF3 := Lib.hid hf3
  clear hf3 h3 hb2' hb3 HA2 hl3
  go_wp2_with fail
  refine HF3.out.mono ?_
  rintro e w4 ⟨rfl, F4, G4, st4, su4, h4, hb4⟩
  have hb4' := hb3'.trans hb4
  have ha4 := logf_add h4 [98] (by decide) (by rw [H10.out.1, H10.out.2.1]; decide) (by decide)
  have HA4 := Lib.hid ha4
  clear ha4 h4 hb3' hb4 HF3
  go_wp2_with fail
  refine HA4.out.mono ?_
  rintro e w5 ⟨rfl, F5, G5, l5, h5, hl5, hb5⟩
  have hb5' := hb4'.trans hb5
  have hr5 := logf_room h5 482 (by rw [H10.out.1, H10.out.2.2]; rfl)
  have HR5 := Lib.hid hr5
  have H5 := Lib.hid h5
  clear hr5 h5 hb4' hb5 HA4
  go_wp2_with fail
  refine HR5.out.mono ?_
  rintro e w6 ⟨rfl, hb6⟩
  have h6 := H5.out.below hb6
  have hb6' := hb5'.trans (hb6.mono (B' := B) H5.out.tab.le)
  have hfa := fail_any h6 (by simp at hl5; omega) 0 0 (by decide) (by decide) (by decide) (by decide)
  rw [failP_lost] at hfa
  have HFA := Lib.hid hfa
  have H6 := Lib.hid h6
  clear hfa h6 hb5' hb6 HR5 H5 hl5
  go_wp2_with fail
  refine HFA.out.mono ?_
  rintro e w7 ⟨rfl, hD7, hT7, ht7, hb7⟩
  have hb7' := hb6'.trans hb7
  obtain ⟨hdd, hwh⟩ := H6.out.log.ok.lost
  have hop := reopen_any hD7 hdd (by decide) (fun b hb => H6.out.far b (.inl hb)) ht7
  rw [hwh] at hop
  have HOP := Lib.hid hop
  clear hop hD7 hT7 hdd hwh HFA hb6' hb7
  go_wp2_with fail
  refine HOP.out.mono ?_
  rintro e w8 ⟨p8, F8, G8, st8, su8, rfl, h8, hb8⟩
  have hb8' := hb7'.trans hb8
  have hal := logf_all h8
  have HAL := Lib.hid hal
  have H8 := Lib.hid h8
  clear hal h8 HOP hb7' hb8 H6
  go_wp2_with fail
  refine HAL.out.mono ?_
  rintro e w9 ⟨A9, n9, c9, rfl, hn9, hm9, hR9, hb9⟩
  have hsm := same_yes _ [[97]] rfl A9 n9 c9 _ 1 1 (w9.heap.size + 1) (w9.alloc (.cells #[.string ⟨[(97 : UInt8)].toArray⟩] 9)) ((hR9.alloc (Nat.le_refl _) _).more (Nat.le_succ _)) (two_reads w9 [97] _ (Nat.lt_succ_self _)) (by simp) hm9 (by unfold maxLen; omega)
  have hb9' := hb8'.trans (hb9.mono (B' := B) H8.out.tab.le)
  have hbA := hb9'.alloc (Nat.le_trans H8.out.tab.le hb9.size) (.cells #[.string ⟨[(97 : UInt8)].toArray⟩] 9)
  have h9 := (H8.out.below hb9).below ((Below.refl _ _).alloc (Nat.le_refl _) (.cells #[.string ⟨[(97 : UInt8)].toArray⟩] 9))
  have hrr := fun q => logf_room (h9.drewN q) 497 (by rw [H10.out.1]; rfl)
  have hBz : B ≤ ((w9.alloc (.cells #[.string ⟨[(97 : UInt8)].toArray⟩] 9)).drewN 0).heap.size := Nat.le_trans H8.out.tab.le (Nat.le_trans hb9.size (by simp [World.drewN]))
  have HSM := Lib.hid hsm
  have HRR := Lib.hid hrr
  clear hsm hrr h9 hR9 hb9 hb9' hb8' HAL hn9 hm9
  go_wp2_with fail
  refine HSM.out.mono ?_
  rintro e w10 ⟨rfl, q, rfl⟩
  go_wp2_with fail
  refine (HRR.out q).mono ?_
  rintro e w11 ⟨rfl, hb11⟩
  go_wp2_with fail
  go_ret
  exact ⟨rfl, (below_drewN hbA q).trans (hb11.mono (B' := B) hBz)⟩
end Go.Proofs.YtkehojgiappiiaaGreatDoor
