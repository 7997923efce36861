/- What Anew of package logs does: other records take the place of all, in the other half, sure; or there is no room, or one is too long. Conditions: those named in each. -/
import Derived.Test.YtkehojgiappiiaaGreatDoorOpen
set_option linter.unusedVariables false
set_option linter.unusedSimpArgs false
namespace Go.Proofs.YtkehojgiappiiaaGreatDoor
open Go Go.RowKit
section
variable {w w' : World} {F G F' : Nat → Prop} {p d N t st : Nat} {R : List (List UInt8)} {sr : Nat} {su : List ByteArray} {l : List (Nat × ByteArray)}
set_option maxHeartbeats 4000000 in
set_option maxRecDepth 100000 in
theorem anew_no (h : LogS w F G p d N t st R sr su l) (ht : t + 1 ≤ 1000000) (rs : List (List UInt8)) (A0 : Option Addr) (n0 c0 : Nat) (hR : Reads w w.heap.size 1 A0 n0 (strL rs)) (hn0 : n0 ≤ maxLen) (x : Int) (hx : joinE rs (128 * hB N (t + 1)) = x) (hne : x ≠ 0) (hT : TabW w) :
    Calls Tryz.prog 11 #[.pointer (some ⟨p, 0, none⟩), .slice A0 n0 c0] w (Gives (.int .i64 x) w) := by
  obtain ⟨vr, A, m, c, hM⟩ := h.mem
  have hpos := hT.size
  have hg := lgiven_any hM.toLgR
  have hN := h.ok.hN
  have h4 := h.ok.h4
  have hF3 := hFB N (t + 1) h4
  have hho := fun w1 (hb1 : Below w.heap.size w w1) => halfOf_any (h.disk.below hb1) (t + 1) (by omega) h4 hN
  have hbm := fun W => hbytes_any W d (hF N (t + 1)) (hB N (t + 1)) (by omega)
  have hjn := fun w1 (hb1 : Below w.heap.size w w1) => join_any rs (128 * hB N (t + 1)) (by omega) A0 n0 c0 w1 ((hR.below hb1).more hb1.size) hn0 (hT.below hb1 hpos)
  have hv : joinV rs (128 * hB N (t + 1)) = .tuple #[.string ⟨#[]⟩, .int .i64 x] := by
    unfold joinV
    rw [hx, if_neg hne]
  simp only [hv] at hjn
  have htz : (t : Int) ≤ 1000000 := by omega
  have HG := Lib.hid hg
  have HO := Lib.hid hho
  have HB := Lib.hid hbm
  have HJ := Lib.hid hjn
  have HM := Lib.hid hM
  have hxn : (x != 0) = true := by rw [bne_iff_ne]; exact hne
  clear hM hg hho hbm hjn h hx hT hv hR hF3 hn0
  unfold halfV at HO HB
  rw [Int.natCast_add] at HO
  go_enter Tryz.func11, Tryz.ntmps11
  go_wp2_with fail
  refine HG.out.mono ?_
  rintro e w1 ⟨rfl, q, rfl⟩
  have c2 := (HM.out.drewN q).c2
  have c1 := (HM.out.drewN q).c1
  go_wp2_with fail
  refine (HO.out _ (below_drewN (Below.refl _ w) q)).mono ?_
  rintro e w2 ⟨rfl, hb2⟩
  have hb2' := (below_drewN (Below.refl _ w) q).trans hb2
  go_wp2_with fail
  refine (HB.out _).mono ?_
  rintro e w3 ⟨rfl, hb3⟩
  have hb3' : Below w.heap.size w w3 := (hb2'.alloc hb2'.size _).trans (hb3.mono (B' := w.heap.size) (by have := hb2'.size; simp; omega))
  go_wp2_with fail
  refine (HJ.out _ hb3').mono ?_
  rintro e w4 ⟨rfl, hb4⟩
  go_wp2_with fail
  go_ret
  exact ⟨rfl, hb3'.trans (hb4.mono (B' := w.heap.size) hb3'.size)⟩
/-- On the disk. -/
theorem LogD.anew (h : LogD N t R sr su l) (ht : t + 1 ≤ 1000000) (hlen : su.length = N) (rs : List (List UInt8)) (hs : ∀ r ∈ rs, r.length ≤ 32768) (hfit : (encs rs).length ≤ 128 * hB N (t + 1)) :
    LogD N (t + 1) rs rs.length (setsP ((l ++ layW (setsP l su) (hF N (t + 1)) (hB N (t + 1)) (encs rs)) ++ [((t + 1) % 2, headS (t + 1))]) su) [] := by
  have hF3 := hFB N (t + 1) h.h4
  have hF3' := hFB N t h.h4
  have hll : (setsP l su).length = N := by rw [setsP_len]; exact hlen
  obtain ⟨s1, s2⟩ := layW_sets (setsP l su) (hB N (t + 1)) (hF N (t + 1)) (encs rs) (setsP l su) (fun _ _ _ => rfl) (by omega)
  obtain ⟨m, _, h2, _⟩ := h.way
  have hp := h2.place
  rw [setsP_snoc, setsP_app]
  have hlen2 : (setsP (layW (setsP l su) (hF N (t + 1)) (hB N (t + 1)) (encs rs)) (setsP l su)).length = N := by rw [setsP_len]; exact hll
  have hg : ∀ i, i < 2 → (setsP (layW (setsP l su) (hF N (t + 1)) (hB N (t + 1)) (encs rs)) (setsP l su))[i]? = su[i]? := fun i hi => by
    rw [s2 i (.inl (by omega))]
    exact setsP_other fun p hpp e => by have := (hp p hpp).1; omega
  obtain ⟨a, b, ha, hb, hab⟩ := h.heads
  have ho : HeadOf (headS (t + 1)) (t + 1) := .inr ⟨rfl, by omega⟩
  refine ⟨h.h4, h.hN, ht, hs, hfit, ?_, ⟨(encs rs).length, ?_, .nil _, by rw [List.take_length]⟩, Nat.le_refl _⟩
  · rcases (show (t + 1) % 2 = 0 ∨ (t + 1) % 2 = 1 by omega) with e | e
    · rw [e]
      refine ⟨t + 1, b, ?_, ?_, by omega⟩
      · rw [List.getD_eq_getElem?_getD, List.getElem?_set_self (by omega)]
        exact ho
      · rw [List.getD_eq_getElem?_getD, List.getElem?_set_ne (by omega), hg 1 (by omega), ← List.getD_eq_getElem?_getD]
        exact hb
    · rw [e]
      refine ⟨a, t + 1, ?_, ?_, by omega⟩
      · rw [List.getD_eq_getElem?_getD, List.getElem?_set_ne (by omega), hg 0 (by omega), ← List.getD_eq_getElem?_getD]
        exact ha
      · rw [List.getD_eq_getElem?_getD, List.getElem?_set_self (by omega)]
        exact ho
  · rw [List.take_length]
    intro i hi
    rw [List.getElem?_set_ne (by simp only; omega)]
    exact s1 i hi
end
end Go.Proofs.YtkehojgiappiiaaGreatDoor
