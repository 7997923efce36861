/- What fault of package benc returns: an error; of a text the third, of a chain of nine lists the second. Conditions: the value reads as a tree. -/
import Derived.Test.YtcgcocnbjijdaaaDoorFltI
import Derived.Test.YtcgcocnbjijdaaaDoorPutA
set_option linter.unusedVariables false
set_option linter.unusedSimpArgs false
namespace Go.Proofs.YtcgcocnbjijdaaaDoor
open Go Go.RowKit

def FaultOf (t : T) (x : Int) : Prop := x ≠ 0 ∧ (kindsOk t = true → nest 8 t → x = 22) ∧ (kindsOk t = true → t.k ≠ 3 → x = 23)
def FaultPost (t : T) (w : World) (e : Ending) (w' : World) : Prop := ∃ x : Int, e = .returned (.int .i64 x) ∧ FaultOf t x ∧ Below w.heap.size w w'
theorem RdA.on {t : T} {v : Value} {w w' : World} (h : RdA (fun b => b < w.heap.size) w t v) (hb : Below w.heap.size w w') : RdA (fun b => b < w'.heap.size) w' t v :=
  (h.keep (Keeps.of_below hb (fun b hb _ => hb))).mono (fun b h1 _ => by have := hb.size; omega)
set_option maxRecDepth 100000 in
set_option maxHeartbeats 16000000 in
theorem fault_any (t : T) (v : Value) (w : World) (hRA : RdA (fun b => b < w.heap.size) w t v) (hW : wt t ≤ 100000) : Calls Tryd.prog 25 #[v] w (FaultPost t w) := by
  have hk := hRA
  obtain ⟨A, c, rfl, _⟩ := hRA.rd
  obtain ⟨hblk, hb0, hs0⟩ := box_start w (.int .i64 t.k) (.int .i64 t.n) (.string t.s) (.slice A t.l.length c)
  have HK := Lib.hid hk
  have HB0 := Lib.hid hb0
  have hc1 := hasOther_any t _ _ (RdA.on hk hb0) hW
  have HC1 := Lib.hid hc1
  clear hk hc1
  go_enter Tryd.func25, Tryd.ntmps25
  go_wp2_with fail
  generalize w.alloc (.cells #[.int .i64 t.k, .int .i64 t.n, .string t.s, .slice A t.l.length c] 24) = w0 at *
  refine HC1.out.mono ?_
  rintro e w1 ⟨r, rfl, hr, hb1⟩
  have hblk1 := (hb1.block w.heap.size (by omega)).trans hblk
  have hbel1 : Below w.heap.size w w1 := below_then HB0.out hb1
  obtain ⟨e0, e1, e2, e3, ef⟩ := val_block hblk1
  have HR := Lib.hid hr
  have HB1 := Lib.hid hbel1
  clear hr hb1 hblk HC1
  cases r with
  | true =>
    go_wp2_with fail
    go_ret
    exact ⟨1, rfl, ⟨by decide, fun hk _ => (by have := HR.out hk; cases this), fun hk _ => (by have := HR.out hk; cases this)⟩, HB1.out⟩
  | false =>
    have hc2 := isDeep_any t _ w1 (RdA.on HK.out HB1.out) hW
    have HC2 := Lib.hid hc2
    clear hc2
    go_wp2_with fail
    refine HC2.out.mono ?_
    rintro e w2 ⟨r2, rfl, h1, h2, hb2⟩
    have hbel2 : Below w.heap.size w w2 := below_then HB1.out hb2
    have H1 := Lib.hid h1
    have H2 := Lib.hid h2
    clear h1 h2 hb2 HC2
    cases r2 with
    | true =>
      go_wp2_with fail
      go_ret
      exact ⟨22, rfl, ⟨by decide, fun _ _ => rfl, fun _ hk => (by have := H1.out hk; cases this)⟩, hbel2⟩
    | false =>
      go_wp2_with fail
      go_ret
      exact ⟨23, rfl, ⟨by decide, fun _ hn => (by have := H2.out hn; cases this), fun _ _ => rfl⟩, hbel2⟩
/-- What Put returns: the bytes, or why there are none. -/
def PutPost (t : T) (w : World) (e : Ending) (w' : World) : Prop := Below w.heap.size w w' ∧ if gdT t 0 [] = true then e = .returned (.tuple #[.string ⟨(enc t).toArray⟩, .int .i64 0]) else ∃ x : Int, e = .returned (.tuple #[.string ⟨#[]⟩, .int .i64 x]) ∧ FaultOf t x
set_option maxRecDepth 100000 in
set_option maxHeartbeats 8000000 in
theorem put_no (t : T) (v : Value) (w : World) (hRA : RdA (fun b => b < w.heap.size) w t v) (hW : wt t ≤ 100000) (hwf : wfT t = true) (hg : gdT t 0 [] = false) (hT : Tabs w w.heap.size) : Calls Tryd.prog 12 #[v] w fun e w' => Below w.heap.size w w' ∧ ∃ x : Int, e = .returned (.tuple #[.string ⟨#[]⟩, .int .i64 x]) ∧ FaultOf t x := by
  have hk := hRA
  obtain ⟨A, c, rfl, _⟩ := hRA.rd
  obtain ⟨hw0, hb0, hblk⟩ := put_start w (.int .i64 t.k) (.int .i64 t.n) (.string t.s) (.slice A t.l.length c)
  have hT0 := (hT.on hb0).up (B := w.heap.size + 1) (by omega)
  have hRA0 := (hk.keep (Keeps.of_below hb0 (fun b hb _ => hb))).mono (ok' := fun b => b < w.heap.size + 1) (fun b hb _ => by omega)
  have hcall := wvalue_of (w.heap.size + 1) (w.heap.size + 2) (SizeOf.sizeOf t + 1) t _ _ _ [] 0 0 (by omega) hRA0 hwf hw0 hT0 (by simp) rfl (by omega)
  rw [hg] at hcall
  have HC := Lib.hid hcall
  have HK := Lib.hid hk
  have HB0 := Lib.hid hb0
  have hlt0 := (Array.getElem?_eq_some_iff.1 hblk).1
  clear hcall hRA0 hT0 hk hg hwf hb0 hw0
  go_enter Tryd.func12, Tryd.ntmps12
  go_wp2_with fail
  generalize (w.alloc (.cells #[.int .i64 t.k, .int .i64 t.n, .string t.s, .slice A t.l.length c] 24)).alloc (.cells #[.slice none 0 0] 46) = w0 at *
  refine HC.out.mono ?_
  rintro e w1 ⟨rfl, _, hb1⟩
  have hblk1 := (hb1.block w.heap.size (by omega)).trans hblk
  have hbel1 : Below w.heap.size w w1 := HB0.out.trans (hb1.mono (by omega))
  obtain ⟨e0, e1, e2, e3, ef⟩ := val_block hblk1
  have HB1 := Lib.hid hbel1
  have hc2 := fault_any t _ w1 (RdA.on HK.out hbel1) hW
  have HC2 := Lib.hid hc2
  clear hc2 hblk HC hb1
  go_wp2_with fail
  refine HC2.out.mono ?_
  rintro e w2 ⟨x, rfl, hx, hb2⟩
  have hbel2 : Below w.heap.size w w2 := below_then HB1.out hb2
  have HX := Lib.hid hx
  clear hx
  go_wp2_with fail
  go_ret2
  exact ⟨hbel2, x, rfl, HX.out⟩
theorem put_any (t : T) (v : Value) (w : World) (hRA : RdA (fun b => b < w.heap.size) w t v) (hW : wt t ≤ 100000) (hwf : wfT t = true) (hT : Tabs w w.heap.size) : Calls Tryd.prog 12 #[v] w (PutPost t w) := by
  cases hg : gdT t 0 [] with
  | true =>
    refine (put_ok t v w hRA hwf hg hT).mono ?_
    rintro e w' ⟨h1, h2⟩
    exact ⟨h2, by rw [if_pos hg]; exact h1⟩
  | false =>
    refine (put_no t v w hRA hW hwf hg hT).mono ?_
    rintro e w' ⟨h1, h2⟩
    exact ⟨h1, by rw [if_neg (by rw [hg]; simp)]; exact h2⟩
end Go.Proofs.YtcgcocnbjijdaaaDoor
