/- What Add of package logs does: the record is the last one, or there is no room, or it is too long. Conditions: those named in each. -/
import Derived.Test.YtkehojgiappiiaaGreatDoorFlush
set_option linter.unusedVariables false
set_option linter.unusedSimpArgs false
namespace Go.Proofs.YtkehojgiappiiaaGreatDoor
open Go Go.RowKit
section
variable {w w' : World} {F G F' : Nat → Prop} {p d N t st : Nat} {R : List (List UInt8)} {sr : Nat} {su : List ByteArray} {l : List (Nat × ByteArray)}
theorem LogS.len (h : LogS w F G p d N t st R sr su l) : 128 * st + ((encs R).drop (128 * st)).length = (encs R).length := by
  rw [List.length_drop]
  have := h.stE
  omega
theorem log_room (h : LogS w F G p d N t st R sr su l) : Calls Tryz.prog 17 #[.pointer (some ⟨p, 0, none⟩)] w (Gives (.int .i64 ((128 * hB N t - (encs R).length : Nat) : Int)) w) := by
  obtain ⟨vr, A, m, c, hM⟩ := h.mem
  have hl := h.len
  have := room_any hM.toLgR h.stB.2 (by rw [hl]; exact h.ok.fit)
  rwa [hl] at this
theorem one_reads (w : World) (r : List UInt8) : Reads (w.alloc (.cells #[.string ⟨r.toArray⟩] 9)) (w.heap.size + 1) 1 (some ⟨w.heap.size, 0, none⟩) 1 (strL [r]) :=
  ⟨rfl, fun _ => ⟨_, rfl, by simp, fun j u hu => news_cells w #[.string ⟨r.toArray⟩] 9 j u (by simpa [strL] using hu)⟩⟩
set_option maxHeartbeats 4000000 in
set_option maxRecDepth 100000 in
theorem add_no (h : LogS w F G p d N t st R sr su l) (r : List UInt8) (x : Int) (hx : joinE [r] (128 * hB N t - (encs R).length) = x) (hne : x ≠ 0) (hT : TabW w) : Calls Tryz.prog 8 #[.pointer (some ⟨p, 0, none⟩), .string ⟨r.toArray⟩] w (Gives (.int .i64 x) w) := by
  obtain ⟨vr, A, m, c, hM⟩ := h.mem
  have hpos := hT.size
  have hg := lgiven_any hM.toLgR
  have hb := h.stB.2
  have hrm := fun q => log_room (h.drewN q)
  have hjn := fun w1 (hb1 : Below w.heap.size w w1) => join_any [r] (128 * hB N t - (encs R).length) (by omega) _ 1 1 (w1.alloc (.cells #[.string ⟨r.toArray⟩] 9)) (by simpa using one_reads w1 r) (by unfold maxLen; omega) (hT.below (hb1.alloc hb1.size _) hpos)
  have hv : joinV [r] (128 * hB N t - (encs R).length) = .tuple #[.string ⟨#[]⟩, .int .i64 x] := by
    unfold joinV
    rw [hx, if_neg hne]
  simp only [hv] at hjn
  have HG := Lib.hid hg
  have HR := Lib.hid hrm
  have HJ := Lib.hid hjn
  have hxn : (x != 0) = true := by rw [bne_iff_ne]; exact hne
  clear hM hg hrm hjn h hx hT hv hb
  generalize (⟨r.toArray⟩ : ByteArray) = s at *
  go_enter Tryz.func8, Tryz.ntmps8
  go_wp2_with fail
  refine HG.out.mono ?_
  rintro e w1 ⟨rfl, q, rfl⟩
  go_wp2_with fail
  refine (HR.out q).mono ?_
  rintro e w2 ⟨rfl, hb2⟩
  have hb2' := (below_drewN (Below.refl _ w) q).trans hb2
  go_wp2_with fail
  refine (HJ.out w2 hb2').mono ?_
  rintro e w3 ⟨rfl, hb3⟩
  go_wp2_with fail
  go_ret
  exact ⟨rfl, (hb2'.alloc hb2'.size _).trans (hb3.mono (B' := w.heap.size) (by have := hb2'.size; simp; omega))⟩
end
end Go.Proofs.YtkehojgiappiiaaGreatDoor
