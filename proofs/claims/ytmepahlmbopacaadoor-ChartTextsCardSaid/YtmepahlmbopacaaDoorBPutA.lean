/- What Put returns of a value that may be put: its bytes. Conditions: the value reads as a tree; Go's table of powers of ten lies as start-up lays it. -/
import Derived.Test.YtmepahlmbopacaaDoorBWrC
import Derived.Laws.BytesString
import Derived.Laws.Cells
set_option linter.unusedVariables false
set_option linter.unusedSimpArgs false
namespace Go.Proofs.YtmepahlmbopacaaDoor.Be
open Go Go.RowKit

theorem foldl_push : ∀ (l : List UInt8) (r : ByteArray), ((l.map fun b => (b.toNat : Int)).foldl (fun r n => r.push (UInt8.ofNat n.toNat)) r) = ⟨r.data ++ l.toArray⟩
  | [], r => by simp
  | c :: cs, r => by
    rw [List.map_cons, List.foldl_cons, foldl_push cs]
    simp [ByteArray.push]
theorem conv_row {w : World} {B : Nat} {v : Value} {bs : List UInt8} (hown : w.ownsRow B 5 1 v bs.length (Lib.byteCells bs)) (hne : 0 < bs.length) : ∀ src dst, Tryd.prog.underlying src = some (.slice 5) → Tryd.prog.underlying dst = some .string → (convert src dst v).run Tryd.prog w = .ok (.string ⟨bs.toArray⟩) w := by
  intro src dst hs hd
  obtain ⟨g, cap, rfl, _, _⟩ := hown.form hne
  rw [run_convert_bytes_string (P := Tryd.prog) w src dst 5 _ _ _ hs Tryd.underlying5 hd]
  have hc := hown.cells (g := g) rfl
  have hmap : Lib.byteCells bs = (bs.map fun b => (b.toNat : Int)).map (Value.int .u8) := by simp [Lib.byteCells]
  have hl := run_loadCells_list (P := Tryd.prog) (w := w) ⟨g, 0, none⟩ (Lib.byteCells bs) hc
  rw [Lib.byteCells_length] at hl
  rw [run_bytesToString (P := Tryd.prog) w ⟨g, 0, none⟩ bs.length cap (bs.map fun b => (b.toNat : Int)) (by rw [hl, hmap])]
  rw [foldl_push, show ByteArray.empty.data = #[] from rfl, Array.empty_append]
theorem enc_pos {t : T} (h : kindsOk t = true) : 0 < (enc t).length := by
  obtain ⟨c, r, e, _⟩ := enc_head t h
  rw [e]
  simp
theorem put_start (w : World) (c0 c1 c2 c3 : Value) : WrAt ((w.alloc (.cells #[c0, c1, c2, c3] 60)).alloc (.cells #[.slice none 0 0] 82)) (w.heap.size + 1) (w.heap.size + 2) (.slice none 0 0) [] ∧ Below w.heap.size w ((w.alloc (.cells #[c0, c1, c2, c3] 60)).alloc (.cells #[.slice none 0 0] 82)) ∧
    ((w.alloc (.cells #[c0, c1, c2, c3] 60)).alloc (.cells #[.slice none 0 0] 82)).heap[w.heap.size]? = some (.cells #[c0, c1, c2, c3] 60 (0, 0)) := by
  refine ⟨⟨?_, World.ownsRow_nil .., by omega, by simp⟩, ((Below.refl _ _).alloc (Nat.le_refl _) _).alloc (by simp) _, ?_⟩
  · have := heap_alloc_new (w.alloc (.cells #[c0, c1, c2, c3] 60)) (.cells #[.slice none 0 0] 82)
    simpa using this
  · rw [Below.heap_alloc _ _ _ (by simp)]
    exact heap_alloc_new w _
set_option maxRecDepth 100000 in
set_option maxHeartbeats 8000000 in
theorem put_ok (t : T) (v : Value) (w : World) (hRA : RdA (fun b => b < w.heap.size) w t v) (hwf : wfT t = true) (hg : gdT t 0 [] = true) (hT : Tabs w w.heap.size) : Calls Tryd.prog 30 #[v] w fun e w' => e = .returned (.tuple #[.string ⟨(enc t).toArray⟩, .int .i64 0]) ∧ Below w.heap.size w w' := by
  have hpos := enc_pos (gdT_iff.1 hg).1
  have hk := hRA
  obtain ⟨A, c, rfl, _⟩ := hRA.rd
  obtain ⟨hw0, hb0, hblk⟩ := put_start w (.int .i64 t.k) (.int .i64 t.n) (.string t.s) (.slice A t.l.length c)
  have hT0 := (hT.on hb0).up (B := w.heap.size + 1) (by omega)
  have hRA0 := (hk.keep (Keeps.of_below hb0 (fun b hb _ => hb))).mono (ok' := fun b => b < w.heap.size + 1) (fun b hb _ => by omega)
  have hcall := wvalue_of (w.heap.size + 1) (w.heap.size + 2) (SizeOf.sizeOf t + 1) t _ _ _ [] 0 0 (by omega) hRA0 hwf hw0 hT0 (by simp) rfl (by omega)
  rw [hg, List.nil_append] at hcall
  have HC := Lib.hid hcall
  clear hcall hRA0 hT0 hk hg hwf
  generalize hbf : enc t = bf at *
  go_enter Tryd.func30, Tryd.ntmps30
  go_wp2_with fail
  generalize (w.alloc (.cells #[.int .i64 t.k, .int .i64 t.n, .string t.s, .slice A t.l.length c] 60)).alloc (.cells #[.slice none 0 0] 82) = w0 at *
  refine HC.out.mono ?_
  rintro e w1 ⟨rfl, hw1, hb1⟩
  obtain ⟨u, hw1'⟩ := hw1 rfl
  obtain ⟨k0, k1, k2⟩ := hw1'.cell
  have hcv := conv_row hw1'.own hpos 80 9 Tryd.underlying80 Tryd.underlying9
  clear hw1
  go_wp2_with fail
  go_ret2
  exact ⟨rfl, hb0.trans (hb1.mono (by omega))⟩
end Go.Proofs.YtmepahlmbopacaaDoor.Be
