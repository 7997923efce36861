/- What Put of the document's bencode answers returns, of lists and of numbers that are not below nought. Conditions: the value reads as such a tree that may be put. -/
import Derived.Test.YtmepahlmbopacaaDoorDByt
import Derived.Test.YtmepahlmbopacaaDoorVKit
set_option linter.unusedVariables false
set_option linter.unusedSimpArgs false
set_option maxRecDepth 100000
namespace Go.Proofs.YtmepahlmbopacaaDoor.Be
open Go Go.RowKit
set_option maxHeartbeats 8000000 in
theorem rbput_any (t : T) (v : Value) (ok : Nat → Prop) (w : World) (h : RdA ok w t v) (hk : kindsOk t = true) (hn : numT t = true) (hd : deepT t ≤ 8) (hl : (enc t).length ≤ 65536) : Calls Tryd.prog 32 #[v] w fun e w' => e = .returned (.tuple #[.string ⟨(enc t).toArray⟩, .int .i64 0]) ∧ Below w.heap.size w w' := by
  have hk0 := h
  obtain ⟨A, c, xs, rfl, h2, h3, h4, h5, h6⟩ := h
  have hb0 : Below w.heap.size w (w.alloc (.cells #[.int .i64 t.k, .int .i64 t.n, .string t.s, .slice A t.l.length c] 60)) := (Below.refl _ _).alloc (Nat.le_refl _) _
  have hkeep := fun (w' : World) (hb : Below w.heap.size w w') => (hk0.mono (ok' := fun b => ok b ∧ b < w.heap.size) (fun b h1 h2 => ⟨h1, h2⟩)).keep (Keeps.of_below (w' := w') hb (fun b hb _ => hb.2))
  have HK := Lib.hid (fun (w' : World) (hb : Below w.heap.size w w') => rkinds_any t _ _ w' (hkeep w' hb) hk)
  have HD := Lib.hid (fun (w' : World) (hb : Below w.heap.size w w') => rdeep_any t _ _ w' (hkeep w' hb) (by omega))
  have HB := Lib.hid (fun (w' : World) (hb : Below w.heap.size w w') => rbytes_any t _ _ w' (hkeep w' hb) hn hl)
  have hrow := Row.new w 60 [.int .i64 t.k, .int .i64 t.n, .string t.s, .slice A t.l.length c]
  clear hk0 h2 h3 h4 h5 h6 hkeep
  obtain ⟨S, hS⟩ : ∃ S : ByteArray, (⟨(enc t).toArray⟩ : ByteArray) = S := ⟨_, rfl⟩
  have hsz : S.size ≤ 65536 := by rw [← hS]; show (enc t).toArray.size ≤ _; simpa using hl
  rw [hS] at HB ⊢
  have hszz : ¬ (65536 : Int) < (S.size : Int) := by omega
  obtain ⟨D, hD⟩ : ∃ D, deepT t = D := ⟨_, rfl⟩
  rw [hD] at HD hd
  have hdz : ¬ (8 : Int) < (D : Int) := by omega
  clear hS hD hl
  go_enter Tryd.func32, Tryd.ntmps32
  go_wp2_with fail
  generalize w.alloc (.cells #[.int .i64 t.k, .int .i64 t.n, .string t.s, .slice A t.l.length c] 60) = w0 at *
  refine (HK.out w0 hb0).mono ?_
  rintro e w1 ⟨rfl, hb1⟩
  have hb01 := hb0.trans (hb1.mono hb0.size)
  have hr1 := hrow.keep (hb1.block _ hrow.lt)
  have f0 : w1.cell? ⟨w.heap.size, 0, none⟩ = some (.int .i64 t.k) := hr1.cell rfl
  have f1 : w1.cell? ⟨w.heap.size, 1, none⟩ = some (.int .i64 t.n) := hr1.cell rfl
  have f2 : w1.cell? ⟨w.heap.size, 2, none⟩ = some (.string t.s) := hr1.cell rfl
  have f3 : w1.cell? ⟨w.heap.size, 3, none⟩ = some (.slice A t.l.length c) := hr1.cell rfl
  go_wp2_with fail
  refine (HD.out w1 hb01).mono ?_
  rintro e w2 ⟨rfl, hb2⟩
  have hb02 := hb01.trans (hb2.mono hb01.size)
  have hr2 := hr1.keep (hb2.block _ hr1.lt)
  clear f0 f1 f2 f3
  have f0 : w2.cell? ⟨w.heap.size, 0, none⟩ = some (.int .i64 t.k) := hr2.cell rfl
  have f1 : w2.cell? ⟨w.heap.size, 1, none⟩ = some (.int .i64 t.n) := hr2.cell rfl
  have f2 : w2.cell? ⟨w.heap.size, 2, none⟩ = some (.string t.s) := hr2.cell rfl
  have f3 : w2.cell? ⟨w.heap.size, 3, none⟩ = some (.slice A t.l.length c) := hr2.cell rfl
  go_wp2_with fail
  refine (HB.out w2 hb02).mono ?_
  rintro e w3 ⟨rfl, hb3⟩
  have hb03 := hb02.trans (hb3.mono hb02.size)
  go_wp2_with fail
  go_ret2
  exact ⟨rfl, hb03⟩
end Go.Proofs.YtmepahlmbopacaaDoor.Be
