/- What take of package dedup does: a row is noted. Conditions: a table in memory; the row reads as a tree. -/
import Derived.Test.YtbijaipoifpngaaDoorDFour
set_option linter.unusedVariables false
set_option linter.unusedSimpArgs false
set_option maxRecDepth 100000
namespace Go.Proofs.YtbijaipoifpngaaDoor.Be
open Go Go.RowKit
def takeM (q : List E) (t : T) : Option (Int × List E) := match four? t with
  | none => none
  | some (c, s, e, b) => if (b = 0 ∨ b = 1) ∧ (putM q c s e (decide (b = 1))).2 = 0 then some (c, (putM q c s e (decide (b = 1))).1) else none
theorem ofRows_step (before : Int) (q : List E) (r : T) (rs : List T) : ofRows before q (r :: rs) = match takeM q r with
    | none => none
    | some (c, q') => if before < c then ofRows c q' rs else none := by
  unfold takeM
  rw [ofRows]
  cases four? r with
  | none => rfl
  | some p =>
    obtain ⟨c, s, e, b⟩ := p
    simp only
    by_cases h : (b = 0 ∨ b = 1) ∧ (putM q c s e (decide (b = 1))).2 = 0
    · rw [if_pos h]
      simp only
      by_cases h2 : before < c
      · rw [if_pos ⟨h.1, h.2, h2⟩, if_pos h2]
      · rw [if_neg (fun h3 => h2 h3.2.2), if_neg h2]
    · rw [if_neg h]
      simp only
      rw [if_neg (fun h3 => h ⟨h3.1, h3.2.1⟩)]
def DTakePost (q : List E) (t : T) (p : Nat) (w : World) (e : Ending) (w' : World) : Prop := ∃ cl okb q', e = .returned (.tuple #[.int .i64 cl, .bool okb]) ∧ TabAt w' p q' ∧ w.grownBy w' (some p) ∧ takeM q t = if okb then some (cl, q') else none
set_option maxHeartbeats 8000000 in
theorem dtake_any {w : World} {p : Nat} {q : List E} (h : TabAt w p q) (t : T) (v : Value) (ok : Nat → Prop) (hRA : RdA ok w t v) : Calls Tryd.prog 31 #[.pointer (some ⟨p, 0, none⟩), v] w (DTakePost q t p w) := by
  have hk := hRA
  obtain ⟨A, c, xs, rfl, _⟩ := hRA
  have hB0 : Below w.heap.size w (w.alloc (.cells #[.int .i64 t.k, .int .i64 t.n, .string t.s, .slice A t.l.length c] 68)) := (Below.refl _ _).alloc (Nat.le_refl _) _
  have hfour := four_any t _ (fun b => ok b ∧ b < w.heap.size) _ ((hk.mono (ok' := fun b => ok b ∧ b < w.heap.size) (fun b hb hl => ⟨hb, hl⟩)).keep (Keeps.of_below hB0 (fun b hb _ => hb.2)))
  have HH := Lib.hid h
  have HB0 := Lib.hid hB0
  clear h hk hB0
  go_enter Tryd.func31, Tryd.ntmps31
  go_wp2_with fail
  refine hfour.mono ?_
  rintro e w1 ⟨cl, s, er, b, okb, rfl, hfo, hb1⟩
  have hb01 : Below w.heap.size w w1 := HB0.out.trans (hb1.mono (by simp))
  have hB2 : Below w.heap.size w (w1.alloc (.cells #[.int .i64 cl, .int .i64 s, .int .i64 er, .int .i64 b] 88)) := hb01.alloc hb01.size _
  have hT2 := HH.out.on hB2
  have hR2 := Row.new w1 88 [.int .i64 cl, .int .i64 s, .int .i64 er, .int .i64 b]
  have HFO := Lib.hid hfo
  have HB2 := Lib.hid hB2
  clear hfour hfo hB2
  rcases okb with _ | _
  · go_wp2_with fail
    go_ret2
    exact ⟨0, false, q, rfl, hT2, grown_below HB2.out _, by unfold takeM; rw [HFO.out]; rfl⟩
  · by_cases hb : b = 0 ∨ b = 1
    · have hput := put_any hT2 cl s er (decide (b = 1)) (.slice none 0 0)
      have HTK : takeM q t = if (putM q cl s er (decide (b = 1))).2 = 0 then some (cl, (putM q cl s er (decide (b = 1))).1) else none := by
        unfold takeM
        rw [HFO.out]
        simp only [if_true]
        by_cases h2 : (putM q cl s er (decide (b = 1))).2 = 0
        · rw [if_pos ⟨hb, h2⟩, if_pos h2]
        · rw [if_neg (fun h3 => h2 h3.2), if_neg h2]
      have HK := Lib.hid HTK
      have HR2 := Lib.hid hR2
      have hsz1 : w.heap.size ≤ w1.heap.size := hb01.size
      have HSZ := Lib.hid hsz1
      have hpl := HH.out.row.lt
      clear HTK hT2 hR2 hb01 hsz1
      generalize putM q cl s er (decide (b = 1)) = pr at *
      obtain ⟨q', z⟩ := pr
      simp only at HK
      rcases hb with rfl | rfl
      all_goals (
        go_wp2_with fail
        refine hput.mono ?_
        rintro e w2 ⟨rfl, ht2, hg2⟩
        have hne : w1.heap.size ≠ p := by have := HSZ.out; omega
        have hR3 := HR2.out.keep (grown_keep hg2 (by simp) hne)
        have k0 : w2.cell? ⟨w1.heap.size, 0, none⟩ = some (.int .i64 cl) := hR3.cell rfl
        have hG := grown_then (grown_below HB2.out (some p)) hg2
        have HT2 := Lib.hid ht2
        have HG := Lib.hid hG
        clear hput hG hR3 hg2 ht2
        go_wp2_with fail
        go_ret2
        refine ⟨cl, decide (z = 0), q', ?_, HT2.out, HG.out, ?_⟩
        · rfl
        · exact HK.out.trans (by simp))
    · have hb0 : b ≠ 0 := fun h => hb (.inl h)
      have hb1' : b ≠ 1 := fun h => hb (.inr h)
      have hd0 : (b != 0) = true := by simpa using hb0
      have hd1 : (b != 1) = true := by simpa using hb1'
      clear hR2
      go_wp2_with fail
      go_ret2
      exact ⟨0, false, q, rfl, hT2, grown_below HB2.out _, by unfold takeM; rw [HFO.out]; simp only [if_true]; rw [if_neg (fun h3 => hb h3.1)]; rfl⟩
end Go.Proofs.YtbijaipoifpngaaDoor.Be
