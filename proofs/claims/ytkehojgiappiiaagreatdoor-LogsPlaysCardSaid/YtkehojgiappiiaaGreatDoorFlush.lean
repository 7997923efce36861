/- A log on its disk; what Flush of package logs does. Conditions: those named in each. -/
import Derived.Test.YtkehojgiappiiaaGreatDoorClean
import Derived.Test.YtkehojgiappiiaaGreatDoorHeads
import Derived.Test.YtkehojgiappiiaaGreatDoorRead
import Derived.Test.YtkehojgiappiiaaGreatDoorJoin
set_option linter.unusedVariables false
set_option linter.unusedSimpArgs false
namespace Go.Proofs.YtkehojgiappiiaaGreatDoor
open Go Go.RowKit
/-- What the heads of a disk tell. -/
def Heads (t : Nat) (su : List ByteArray) : Prop := ∃ a b, HeadOf (su.getD 0 ⟨#[]⟩) a ∧ HeadOf (su.getD 1 ⟨#[]⟩) b ∧ max a b = t
/-- A log's records on a disk: sr of them are sure. -/
structure LogD (N t : Nat) (R : List (List UInt8)) (sr : Nat) (su : List ByteArray) (l : List (Nat × ByteArray)) : Prop where
  h4 : 4 ≤ N
  hN : N ≤ 16384
  ht : t ≤ 1000000
  small : ∀ r ∈ R, r.length ≤ 32768
  fit : (encs R).length ≤ 128 * hB N t
  heads : Heads t su
  way : ∃ m, AtH su (hF N t) (hB N t) ((encs R).take m) ∧ Way (hF N t) (hB N t) (encs R) m l (encs R).length ∧ (encs (R.take sr)).length = m
  sr : sr ≤ R.length
/-- A log and its disk in memory. -/
structure LogS (w : World) (F G : Nat → Prop) (p d N t st : Nat) (R : List (List UInt8)) (sr : Nat) (su : List ByteArray) (l : List (Nat × ByteArray)) : Prop where
  disk : Disk w F d N su l
  mem : ∃ vr A m c, LgW w G p d t (hF N t) (hB N t) R vr st A m c ((encs R).drop (128 * st))
  apart : ∀ b, F b → ¬ G b
  ok : LogD N t R sr su l
  stE : 128 * st ≤ (encs R).length
section
variable {w w' : World} {F G F' : Nat → Prop} {p d N t st : Nat} {R : List (List UInt8)} {sr : Nat} {su : List ByteArray} {l : List (Nat × ByteArray)}
theorem LogD.now (h : LogD N t R sr su l) : AtH (setsP l su) (hF N t) (hB N t) (encs R) := by
  obtain ⟨m, h1, h2, _⟩ := h.way
  have := h2.at_ su h1
  rwa [List.take_length] at this
theorem LogS.below (h : LogS w F G p d N t st R sr su l) (hb : Below w.heap.size w w') : LogS w' F G p d N t st R sr su l :=
  ⟨h.disk.below hb, by obtain ⟨vr, A, m, c, k⟩ := h.mem; exact ⟨vr, A, m, c, k.below hb⟩, h.apart, h.ok, h.stE⟩
theorem LogS.drewN (h : LogS w F G p d N t st R sr su l) (q : Nat) : LogS (w.drewN q) F G p d N t st R sr su l :=
  ⟨h.disk.drewN q, by obtain ⟨vr, A, m, c, k⟩ := h.mem; exact ⟨vr, A, m, c, k.drewN q⟩, h.apart, h.ok, h.stE⟩
theorem LogS.stB (h : LogS w F G p d N t st R sr su l) : st ≤ hB N t ∧ hB N t ≤ 16384 := by
  have := h.ok.fit
  have := h.stE
  have := h.ok.hN
  have := (hFB N t h.ok.h4).2.1
  omega
/-- All that was written is sure. -/
theorem LogD.sync (h : LogD N t R sr su l) : LogD N t R R.length (setsP l su) [] := by
  have hn := h.now
  obtain ⟨m, h1, h2, h3⟩ := h.way
  have hp := h2.place
  have h2f := (hFB N t h.h4).1
  refine ⟨h.h4, h.hN, h.ht, h.small, h.fit, ?_, ⟨(encs R).length, by rw [List.take_length]; exact hn, .nil _, by rw [List.take_length]⟩, Nat.le_refl _⟩
  obtain ⟨a, b, ha, hb, e⟩ := h.heads
  have g : ∀ i, i < 2 → (setsP l su).getD i ⟨#[]⟩ = su.getD i ⟨#[]⟩ := fun i hi => by
    rw [List.getD_eq_getElem?_getD, List.getD_eq_getElem?_getD, setsP_other (fun p hpp e => by have := (hp p hpp).1; omega)]
  exact ⟨a, b, by rw [g 0 (by omega)]; exact ha, by rw [g 1 (by omega)]; exact hb, e⟩
def Un (F G : Nat → Prop) : Nat → Prop := fun b => F b ∨ G b
theorem Turn.left (h : Turn F w F' w') (G : Nat → Prop) : Turn (Un F G) w (Un F' G) w' :=
  ⟨h.os, h.tape, h.output, h.size, fun b hb hf => h.block b hb (fun hF => hf (.inl hF)), fun b hb => hb.elim (fun hb => (h.foot b hb).imp .inl id) (fun hb => .inl (.inr hb))⟩
theorem Turn.right {G' : Nat → Prop} (h : Turn G w G' w') (F : Nat → Prop) : Turn (Un F G) w (Un F G') w' :=
  ⟨h.os, h.tape, h.output, h.size, fun b hb hf => h.block b hb (fun hF => hf (.inr hF)), fun b hb => hb.elim (fun hb => .inl (.inl hb)) (fun hb => (h.foot b hb).imp .inr id)⟩
theorem apart_left (h : Turn F w F' w') (ha : ∀ b, F b → ¬ G b) (hG : ∀ b, G b → b < w.heap.size) : ∀ b, F' b → ¬ G b := fun b hb hg => (h.foot b hb).elim (fun hF => ha b hF hg) (fun hn => by have := hG b hg; omega)
theorem apart_right {G' : Nat → Prop} (h : Turn G w G' w') (ha : ∀ b, F b → ¬ G b) (hF : ∀ b, F b → b < w.heap.size) : ∀ b, F b → ¬ G' b := fun b hb hg => (h.foot b hg).elim (fun hG => ha b hb hG) (fun hn => by have := hF b hb; omega)
set_option maxHeartbeats 4000000 in
set_option maxRecDepth 100000 in
theorem flush_any (h : LogS w F G p d N t st R sr su l) (hl : l.length ≤ 900000) : Calls Tryz.prog 9 #[.pointer (some ⟨p, 0, none⟩)] w fun e w' =>
    e = .returned (.int .i64 0) ∧ ∃ F' G' st', LogS w' F' G' p d N t st' R R.length (setsP l su) [] ∧ Turn (Un F G) w (Un F' G') w' := by
  obtain ⟨vr, A, m, c, hM⟩ := h.mem
  obtain ⟨hs1, hs2⟩ := h.stB
  have hF3 := hFB N t h.ok.h4
  have hfit := h.ok.fit
  have hstE := h.stE
  have hN := h.ok.hN
  have hlen := hM.toLgR.len
  have hxl : ((encs R).drop (128 * st)).length = (encs R).length - 128 * st := List.length_drop
  have hg := lgiven_any hM.toLgR
  obtain ⟨cnt, hcnt⟩ : ∃ cnt, cnt = (((encs R).drop (128 * st)).length + 127) / 128 := ⟨_, rfl⟩
  have hlw : layW (setsP l su) (hF N t + st) cnt ((encs R).drop (128 * st)) = [] := layW_nil _ _ _ _ fun i hi => by
    rw [chk_drop, Nat.add_assoc]
    exact h.ok.now _ (by omega)
  have hlay := fun q => lay_any (h.disk.drewN q) (hF N t) (hB N t) st cnt ⟨((encs R).drop (128 * st)).toArray⟩ (by omega) hN (by omega) (by show ((encs R).drop (128 * st)).length ≤ _; omega)
  rw [show (⟨((encs R).drop (128 * st)).toArray⟩ : ByteArray).data.toList = (encs R).drop (128 * st) from rfl] at hlay
  simp only [hlw, List.append_nil] at hlay
  have hblk := fun w => blocksOf_any ⟨((encs R).drop (128 * st)).toArray⟩ (by show ((encs R).drop (128 * st)).length ≤ _; omega) w
  rw [show (((⟨((encs R).drop (128 * st)).toArray⟩ : ByteArray).size + 127) / 128 : Nat) = cnt from hcnt.symm] at hblk
  have hcv := fun q => conv_reads (hM.en.drewN q) c 55 9 Tryz.underlying55 Tryz.underlying9
  have hset := fun w1 (k : LgR w1 G p d t (hF N t) (hB N t) R vr st A m c ((encs R).drop (128 * st))) => settle_any k (by omega) (by omega)
  have hEd : ((encs R).drop (128 * st)).drop (128 * (m / 128)) = (encs R).drop (128 * (st + m / 128)) := by rw [List.drop_drop]; congr 1; omega
  simp only [hEd] at hset
  have hfin : ∀ w1 F1 G1 A1 m1 c1, Disk w1 F1 d N (setsP l su) [] → LgW w1 G1 p d t (hF N t) (hB N t) R vr (st + m / 128) A1 m1 c1 ((encs R).drop (128 * (st + m / 128))) → (∀ b, F1 b → ¬ G1 b) → LogS w1 F1 G1 p d N t (st + m / 128) R R.length (setsP l su) [] :=
    fun w1 F1 G1 A1 m1 c1 k1 k2 k3 => ⟨k1, ⟨vr, A1, m1, c1, k2⟩, k3, h.ok.sync, by omega⟩
  have HG := Lib.hid hg
  have HM := Lib.hid hM
  have HB := Lib.hid hblk
  have HL := Lib.hid hlay
  have HC := Lib.hid hcv
  have HS := Lib.hid hset
  have HF := Lib.hid hfin
  have HA := Lib.hid (And.intro h.apart h.disk.lt)
  have hcn : cnt ≤ 20000 := by omega
  clear hg hM hblk hlay hcv hset hfin h hcnt hlw hlen hxl hfit hstE hEd hF3
  unfold halfV at HL
  generalize (⟨((encs R).drop (128 * st)).toArray⟩ : ByteArray) = S at *
  generalize (encs R).drop (128 * st) = E at *
  generalize st + m / 128 = st' at *
  generalize hF N t = f at *
  generalize hB N t = n at *
  go_enter Tryz.func9, Tryz.ntmps9
  go_wp2_with fail
  refine HG.out.mono ?_
  rintro e w1 ⟨rfl, q, rfl⟩
  have c3 := (HM.out.drewN q).c3
  have c4 := (HM.out.drewN q).c4
  have c5 := (HM.out.drewN q).c5
  have c7 := (HM.out.drewN q).c7
  have c8 := (HM.out.drewN q).c8
  have pl := (HM.out.drewN q).pl
  have hcv := HC.out q
  go_wp2_with fail
  go_region_held3 (fun w' => w'.cell? ⟨p, 3, none⟩ = some (.pointer (some ⟨d, 0, none⟩)) ∧ w'.cell? ⟨p, 4, none⟩ = some (.int .i64 (f : Int)) ∧ w'.cell? ⟨p, 5, none⟩ = some (.int .i64 (n : Int)) ∧ w'.cell? ⟨p, 7, none⟩ = some (.int .i64 (st : Int)))
    (first | exact ⟨d3, d4, d5, d7⟩ | exact ⟨c3, c4, c5, c7⟩)
    (first
      | (go_at_call 24; refine (HB.out _).mono ?_; rintro e w4 ⟨rfl, rfl⟩)
      | (go_at_call 23; refine (HL.out (q + 1)).mono ?_; rintro e w5 ⟨rfl, F5, hD5, hT5⟩; have H5 := (HM.out.drewN (q + 1)).turn hT5 HA.out.1; have d3 := H5.c3; have d4 := H5.c4; have d5 := H5.c5; have d7 := H5.c7))
  have d1 := H5.c1
  have pl5 := H5.pl
  have hsy := a_sync hD5 (by omega)
  have H6 := Lib.hid (And.intro hsy (And.intro hT5 H5))
  clear hD5 hT5 H5 c3 c4 c5 c7 c8 d3 d4 d5 d7 hsy
  go_wp2_with fail
  refine H6.out.1.mono ?_
  rintro e w6 ⟨rfl, hD6, hT6⟩
  have hT06 := ((Turn.drewN F w (q + 1)).trans H6.out.2.1).trans hT6
  have hM6 := (H6.out.2.2).turn hT6 (apart_left ((Turn.drewN F w (q + 1)).trans H6.out.2.1) HA.out.1 HM.out.lt)
  have HX := Lib.hid (And.intro hD6 (And.intro hT06 (And.intro hM6 (HS.out _ hM6.toLgR))))
  clear hD6 hT06 hT6 hM6
  go_wp2_with fail
  refine HX.out.2.2.2.mono ?_
  rintro e w7 ⟨rfl, G7, A7, c7, hM7, hT7⟩
  go_wp2_with fail
  go_ret
  have ha6 := apart_left HX.out.2.1 HA.out.1 HM.out.lt
  refine ⟨rfl, F5, G7, st', HF.out _ _ _ _ _ _ (HX.out.1.turn hT7 (fun b hb hg => ha6 b hb hg)) hM7 (apart_right hT7 ha6 HX.out.1.lt), (HX.out.2.1.left G).trans (hT7.right F5)⟩
end
end Go.Proofs.YtkehojgiappiiaaGreatDoor
