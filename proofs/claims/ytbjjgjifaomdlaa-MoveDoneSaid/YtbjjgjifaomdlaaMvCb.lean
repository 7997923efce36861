/- The program's move goes on: goOn. Conditions: something is said; a text that may be. -/
import Derived.Test.YtbjjgjifaomdlaaMvCa
import Derived.Test.YtbjjgjifaomdlaaShelf
set_option linter.unusedVariables false
set_option linter.unusedSimpArgs false
set_option maxRecDepth 100000
namespace Go.Proofs.Ytbjjgjifaomdlaa.Mv
open Go Go.RowKit
open Po (M msgV)
theorem clone_any (s : ByteArray) (w : World) (h : s.size ≤ 281474976710656) : Calls Try.prog 32 #[.string s] w fun e w' => e = .returned (.string s) ∧ Below w.heap.size w w' := by
  have HC := Lib.hid (Try.stringslite_Clone s w h)
  clear h
  go_enter Try.func32, Try.ntmps32
  go_wp2_with fail
  with_reducible refine HC.out.mono ?_
  rintro e w1 ⟨rfl, hb⟩
  have HB := Lib.hid hb
  clear hb
  go_wp2
  go_ret
  exact ⟨rfl, HB.out⟩
section
variable {w : World} {p : Nat} {m : Mv} {v : Int} {t : ByteArray}
/-- Since the move, its cells have been set. -/
structure Set1 (p : Nat) (w w' : World) (m : Mv) (v : Int) (t : ByteArray) : Prop where
  row : Row w' p 62 (mvC p m v t)
  turn : Turn (fun b => b = p) w (fun b => b = p) w'
theorem Set1.on {w1 w2 : World} (h : Set1 p w w1 m v t) (hb : Below w1.heap.size w1 w2) : Set1 p w w2 m v t :=
  ⟨h.row.keep (hb.block _ h.row.lt), h.turn.trans (Turn.below _ hb)⟩
theorem Set1.text {w1 : World} (h : Set1 p w w1 m v t) (x : ByteArray) : Set1 p w (w1.setCell ⟨p, 8, none⟩ (.string x)) m v x :=
  ⟨h.row.set 8 _, h.turn.trans (Turn.set (fun b => b = p) _ (a := ⟨p, 8, none⟩) rfl _)⟩
theorem Set1.ver {w1 : World} (h : Set1 p w w1 m v t) (x : Int) : Set1 p w (w1.setCell ⟨p, 7, none⟩ (.int .i64 x)) m x t :=
  ⟨h.row.set 7 _, h.turn.trans (Turn.set (fun b => b = p) _ (a := ⟨p, 7, none⟩) rfl _)⟩
theorem Set1.phase {w1 : World} (h : Set1 p w w1 m v t) (x : Int) : Set1 p w (w1.setCell ⟨p, 6, none⟩ (.int .i64 x)) { m with ph := x } v t :=
  ⟨h.row.set 6 _, h.turn.trans (Turn.set (fun b => b = p) _ (a := ⟨p, 6, none⟩) rfl _)⟩
theorem set1_start (hr : Row w p 62 (mvC p m v t)) : Set1 p w w m v t := ⟨hr, Turn.refl _ _⟩
/-- What the walk wants of the move's cells. -/
theorem Set1.facts {w1 : World} (h : Set1 p w w1 m v t) : w1.cell? ⟨p, 6, none⟩ = some (.int .i64 m.ph) ∧ w1.frozen? ⟨p, 6, none⟩ = false ∧ w1.frozen? ⟨p, 7, none⟩ = false ∧ w1.frozen? ⟨p, 8, none⟩ = false ∧ w1.cell? ⟨p, 7, none⟩ = some (.int .i64 v) ∧ w1.cell? ⟨p, 8, none⟩ = some (.string t) ∧ p < w1.heap.size :=
  ⟨h.row.cell rfl, h.row.frozen 6, h.row.frozen 7, h.row.frozen 8, h.row.cell rfl, h.row.cell rfl, h.row.lt⟩
def GoneOn (p : Nat) (m : Mv) (v : Int) (x : M) (w w' : World) : Prop := ∃ v' t', Set1 p w w' { m with ph := m.ph + 1 } v' t' ∧ (m.ph = 1 → v' = x.vr) ∧ (m.ph ≠ 1 → v' = v) ∧ (m.ph = 1 ∨ m.ph = 3 → t' = x.tx)
set_option maxHeartbeats 2000000 in
theorem goOn_any (hf : FitV m) (ho : open_ m = true) (hr : Row w p 62 (mvC p m v t)) (x : M) (hx : x.tx.size ≤ 281474976710656) (A : Option Addr) (n c : Nat) (A' : Option Addr) (n' c' : Nat) :
    Calls Try.prog 29 #[ptr p, .agg (msgV x A n c A' n' c').toArray] w (fun e w' => e = .returned (.tuple #[]) ∧ GoneOn p m v x w w') := by
  have h1 := phases hf
  have HC := Lib.hid (fun w => clone_any x.tx w hx)
  have hA : ∀ (W : World) (o : Obj), Below W.heap.size W (W.alloc o) := fun W o => (Below.refl _ W).alloc (Nat.le_refl _) o
  have hS := set1_start hr
  obtain ⟨c6, f6, f7, f8, c7, c8, hp⟩ := hS.facts
  have HT := Lib.hid (hS.text { data := #[] })
  have HV := Lib.hid ((hS.text { data := #[] }).ver x.vr)
  unfold GoneOn
  clear hf hx hr hS
  unfold msgV
  obtain ⟨nm, ep, ph, vr, sh, fr, to, tx⟩ := m
  simp only [open_] at h1 ho c6 HT HV ⊢
  rcases h1 with rfl | rfl | rfl | rfl | rfl | rfl | rfl | rfl | rfl
  all_goals (try (exfalso; revert ho; decide))
  all_goals clear ho
  all_goals go_enter Try.func29, Try.ntmps29
  all_goals go_wp2_with (fail)
  all_goals try
    (with_reducible refine (HC.out _).mono ?_
     rintro e w1 ⟨rfl, hb1⟩
     first
       | have hs := (HV.out.on (hA _ _)).on hb1
       | have hs := (HT.out.on (hA _ _)).on hb1
     obtain ⟨d6, g6, g7, g8, d7, d8, hq⟩ := hs.facts
     have HX := Lib.hid (hs.text x.tx)
     clear hs hb1 HV HT HC hA c6 f6 f7 f8 c7 c8 hp
     go_wp2)
  all_goals
    go_end0
    first
      | exact ⟨rfl, _, _, HX.out.phase _, by simp, by simp, by simp⟩
      | exact ⟨rfl, _, _, (HT.out.phase _).on (hA _ _), by simp, by simp, by simp⟩
end
end Go.Proofs.Ytbjjgjifaomdlaa.Mv
