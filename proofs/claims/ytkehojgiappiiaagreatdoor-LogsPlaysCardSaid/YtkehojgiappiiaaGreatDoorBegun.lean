/- What begun and awake of the statements return: a log on a new disk; and true. Conditions: the tables lie as start-up lays them. -/
import Derived.Test.YtkehojgiappiiaaGreatDoorSame
set_option linter.unusedVariables false
set_option linter.unusedSimpArgs false
namespace Go.Proofs.YtkehojgiappiiaaGreatDoor
open Go Go.RowKit
/-- A log and its disk, in blocks from a place on. -/
structure LogF (w : World) (B : Nat) (F G : Nat → Prop) (p d N t st : Nat) (R : List (List UInt8)) (sr : Nat) (su : List ByteArray) (l : List (Nat × ByteArray)) : Prop where
  log : LogS w F G p d N t st R sr su l
  far : ∀ b, Un F G b → B ≤ b
  tab : Tab w B
section
variable {w w' : World} {F G F' G' : Nat → Prop} {p d N t st B : Nat} {R : List (List UInt8)} {sr : Nat} {su : List ByteArray} {l : List (Nat × ByteArray)}
theorem LogF.drewN (h : LogF w B F G p d N t st R sr su l) (q : Nat) : LogF (w.drewN q) B F G p d N t st R sr su l := ⟨h.log.drewN q, h.far, h.tab.on (below_drewN (Below.refl _ w) q)⟩
theorem LogF.below (h : LogF w B F G p d N t st R sr su l) (hb : Below w.heap.size w w') : LogF w' B F G p d N t st R sr su l := ⟨h.log.below hb, h.far, h.tab.on (hb.mono h.tab.le)⟩
theorem LogF.next {p' d' N' t' st' sr' : Nat} {R' : List (List UInt8)} {su' : List ByteArray} {l' : List (Nat × ByteArray)} (h : LogF w B F G p d N t st R sr su l) (h' : LogS w' F' G' p' d' N' t' st' R' sr' su' l') (T : Turn (Un F G) w (Un F' G') w') : LogF w' B F' G' p' d' N' t' st' R' sr' su' l' ∧ Below B w w' :=
  ⟨⟨h', T.far h.far h.tab.le, h.tab.on (T.down h.far h.tab.le)⟩, T.down h.far h.tab.le⟩
/-- Opening the disk anew, behind a failure. -/
theorem LogF.anew {p' st' t' m : Nat} {R' : List (List UInt8)} {su' : List ByteArray} (h : LogF w B F G p d N t st R sr su l) (h' : LogS w' F' G' p' d N t' st' R' R'.length su' []) (T : Turn F w (Un F' G') w') : LogF w' B F' G' p' d N t' st' R' R'.length su' [] ∧ Below B w w' := by
  have hF : ∀ b, F b → B ≤ b := fun b hb => h.far b (.inl hb)
  exact ⟨⟨h', T.far hF h.tab.le, h.tab.on (T.down hF h.tab.le)⟩, T.down hF h.tab.le⟩
def BegunPost (N B : Nat) (w : World) (e : Ending) (w' : World) : Prop :=
  ∃ p d F G st su, e = .returned (.tuple #[.pointer (some ⟨d, 0, none⟩), .pointer (some ⟨p, 0, none⟩), .bool true]) ∧ LogF w' B F G p d N 0 st [] 0 su [] ∧ Below B w w'
set_option maxHeartbeats 4000000 in
set_option maxRecDepth 100000 in
theorem begun_any (N : Nat) (h4 : 4 ≤ N) (hN : N ≤ 4000) (w : World) (hT : Tab w B) : Calls Tryz.prog 4 #[.int .i64 (N : Int)] w (BegunPost N B w) := by
  have hnw := a_new N h4 (by omega) w
  go_enter Tryz.func4, Tryz.ntmps4
  go_wp2_with fail
  refine hnw.mono ?_
  rintro e w1 ⟨d, F, rfl, hD, hF, hb⟩
  have hbB : Below B w w1 := hb.mono hT.le
  have hT1 := hT.on hbB
  have hop := open_any hD (diskD_new N h4 (by omega)) hN hT1.t1
  have HO := Lib.hid hop
  clear hop hnw
  go_wp2_with fail
  refine HO.out.mono ?_
  rintro e w2 ⟨p, F2, G2, st, rfl, hL, hT2⟩
  go_wp2_with fail
  refine bodyPost_ret (v := .tuple #[.pointer (some ⟨d, 0, none⟩), .pointer (some ⟨p, 0, none⟩), .bool true]) (by simp [results, Tryz.results4, go_sem]) rfl ?_
  have hF' : ∀ b, F b → B ≤ b := fun b hb => Nat.le_trans hT.le (hF b hb)
  have hdn := hT2.down hF' hT1.le
  exact ⟨p, d, F2, G2, st, _, rfl, ⟨hL, hT2.far hF' hT1.le, hT1.on hdn⟩, hbB.trans hdn⟩
/-- The power fails, and the disk is opened anew. -/
theorem fail_any (h : LogF w B F G p d N t st R sr su l) (hl : l.length ≤ 1000000) (keep torn : Int) (hk1 : -9223372036854775808 ≤ keep) (hk2 : keep ≤ 9223372036854775807) (ht1 : -9223372036854775808 ≤ torn) (ht2 : torn ≤ 9223372036854775807) :
    Calls Tryz.prog 12 #[.pointer (some ⟨d, 0, none⟩), .int .i64 keep, .int .i64 torn] w fun e w' => e = .returned (.int .i64 0) ∧ Disk w' F d N (failP l su keep torn) [] ∧ Turn F w F w' ∧ Tab w' B ∧ Below B w w' := by
  refine (a_fail h.log.disk hl keep torn hk1 hk2 ht1 ht2).mono ?_
  rintro e w' ⟨rfl, hD, hT⟩
  have hF : ∀ b, F b → B ≤ b := fun b hb => h.far b (.inl hb)
  have hdn := hT.down hF h.tab.le
  exact ⟨rfl, hD, hT, h.tab.on hdn, hdn⟩
/-- Opening it then. -/
theorem reopen_any {m : Nat} (hD : Disk w F d N su []) (hd : DiskD N t R m su) (hN : N ≤ 4000) (hF : ∀ b, F b → B ≤ b) (hT : Tab w B) : Calls Tryz.prog 13 #[.pointer (some ⟨d, 0, none⟩)] w fun e w' =>
    ∃ p F' G' st' su', e = .returned (.tuple #[.pointer (some ⟨p, 0, none⟩), .int .i64 0]) ∧ LogF w' B F' G' p d N t st' (R.take (wh R m)) (R.take (wh R m)).length su' [] ∧ Below B w w' := by
  refine (open_any hD hd hN hT.t1).mono ?_
  rintro e w' ⟨p, F', G', st', rfl, hL, hTn⟩
  have hdn := hTn.down hF hT.le
  exact ⟨p, F', G', st', _, rfl, ⟨hL, hTn.far hF hT.le, hT.on hdn⟩, hdn⟩
theorem logf_room (h : LogF w B F G p d N t st R sr su l) (z : Int) (hz : z = ((128 * hB N t - (encs R).length : Nat) : Int)) : Calls Tryz.prog 17 #[.pointer (some ⟨p, 0, none⟩)] w (Gives (.int .i64 z) w) := by
  rw [hz]
  exact log_room h.log
theorem logf_all (h : LogF w B F G p d N t st R sr su l) : Calls Tryz.prog 14 #[.pointer (some ⟨p, 0, none⟩)] w fun e w' => ∃ A n c, e = .returned (.slice A n c) ∧ n = R.length ∧ n ≤ maxLen ∧ Reads w' w'.heap.size 1 A n (strL R) ∧ Below w.heap.size w w' := by
  obtain ⟨vr, A, m, c, hM⟩ := h.log.mem
  have hc := encs_count R
  have hf := h.log.ok.fit
  have hs := h.log.stB.2
  refine (lall_any hM.toLgR (by omega)).mono ?_
  rintro e w' ⟨v, rfl, hv, hb⟩
  obtain ⟨A', c', rfl, h1, h2⟩ := own_shape hv
  exact ⟨A', R.length, c', rfl, rfl, by omega, Reads.of_own hv, hb⟩
end
end Go.Proofs.YtkehojgiappiiaaGreatDoor
