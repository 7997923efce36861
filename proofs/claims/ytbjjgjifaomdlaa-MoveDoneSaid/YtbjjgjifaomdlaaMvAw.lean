/- What must come, whatever the arguments are. Conditions: none. -/
import Derived.Test.YtbjjgjifaomdlaaMvMs
set_option linter.unusedVariables false
set_option linter.unusedSimpArgs false
set_option maxRecDepth 100000
namespace Go.Proofs.Ytbjjgjifaomdlaa.Mv
open Go Go.RowKit
open Po (M msgV)
abbrev aM : Mv := newM 3 9 2 1 0
abbrev aT : ByteArray := { data := #[116] }
abbrev aX : M := { nilM with kd := 8, sh := 2, nn := 3, tx := aT }
theorem aw_ok : okN 3 9 2 1 0 := by unfold okN; omega
theorem aw_says : saysM aM = (1, { nilM with kd := 7, sh := 2, nn := 3 }, true) := by rfl
theorem aw_hears : hearsM aM 1 aX = (stepM aM aX, true) := by rfl
theorem aw_abort : abortM (stepM aM aX) = ({ stepM aM aX with ph := 7 }, 0) := by rfl
section
variable {w : World} {p : Nat} {m m' : Mv} {v : Int × M × Bool}
/-- Contracts with what they say written out. -/
theorem says_to (h : IsM w p m) {a : Int} {x : M} {b : Bool} (e : saysM m = (a, x, b)) : Calls Try.prog 17 #[ptr p] w (fun en w' => en = .returned (.tuple #[.int .i64 a, .agg (msgV x none 0 0 none 0 0).toArray, .bool b]) ∧ Below w.heap.size w w') := by
  have := says_is h
  unfold saysV at this
  rwa [e] at this
theorem hears_to (h : IsM w p m) (f : Int) (x : M) {r : Bool} (e : hearsM m f x = (m', r)) (hx : x.sh = m.sh → x.nn = m.nm → x.tx.size ≤ 281474976710656) (A : Option Addr) (n c : Nat) (A' : Option Addr) (n' c' : Nat) :
    Calls Try.prog 15 #[ptr p, .int .i64 f, .agg (msgV x A n c A' n' c').toArray] w (Does p (.bool r) m' w) := by
  have := hears_is h f x hx A n c A' n' c'
  rwa [e] at this
theorem abort_to (h : IsM w p m) {r : Int} (e : abortM m = (m', r)) : Calls Try.prog 13 #[ptr p] w (Does p (.int .i64 r) m' w) := by
  have := abort_is h
  rwa [e] at this
theorem phase_to (h : IsM w p m) {r : Int} (e : m.ph = r) : Calls Try.prog 18 #[ptr p] w (fun en w' => en = .returned (.int .i64 r) ∧ w' = w) := by
  have := phase_is h
  rwa [e] at this
end
/-- Later worlds. -/
theorem below_a (W : World) (o : Obj) : Below W.heap.size W (W.alloc o) := (Below.refl _ W).alloc (Nat.le_refl _) o
set_option maxHeartbeats 4000000 in
theorem awake_any (w : World) : Calls Try.prog 10 #[] w (Gives (.bool true) w) := by
  have H0 := Lib.hid (new_is 3 9 2 1 0 w aw_ok)
  have HS0 := Lib.hid (fun w' p (h : IsM w' p aM) => by have := says_to h aw_says; rw [msgA] at this; simpa only [nilM] using this)
  have HH0 := Lib.hid (fun w' p (h : IsM w' p aM) => by have := hears_to h 1 aX aw_hears (fun _ _ => by decide) none 0 0 none 0 0; rw [msgA] at this; simpa only [nilM, aX, aT] using this)
  have HA0 := Lib.hid (fun w' p (h : IsM w' p (stepM aM aX)) => abort_to h aw_abort)
  have HP0 := Lib.hid (fun w' p (h : IsM w' p (stepM aM aX)) => phase_to h (r := 2) rfl)
  go_enter Try.func10, Try.ntmps10
  go_wp2_with fail
  with_reducible refine H0.out.mono ?_
  rintro e w1 ⟨p, rfl, h1, h2, h3⟩
  have HM := Lib.hid (show MS w w1 p aM from ⟨h1, h2, h3⟩)
  have HP := Lib.hid (phase_to h1 (r := 1) rfl)
  clear h1 h2 h3
  go_wp2_with ((with_reducible refine (HP.out).mono ?_); rintro e w2 ⟨rfl, rfl⟩)
  refine (HS0.out _ _ HM.out.is).mono ?_
  rintro e w2 ⟨rfl, hb2⟩
  have HM2 := Lib.hid (HM.out.on hb2)
  clear hb2
  go_wp2_with fail
  have HM3 := Lib.hid (HM2.out.on (below_a w2 (.cells #[.int .i64 7, .int .i64 2, .int .i64 0, .int .i64 0, .int .i64 0, .int .i64 3, .int .i64 0, .int .i64 0, .int .i64 0, .int .i64 0, .slice none 0 0, .int .i64 0, .int .i64 0, .bool false, .slice none 0 0, .string { data := #[] }] 42)))
  refine (HH0.out _ _ HM3.out.is).mono ?_
  rintro e w3 ⟨rfl, hd3⟩
  have HM4 := Lib.hid (HM3.out.mv hd3)
  have HP4 := Lib.hid (HP0.out _ _ HM4.out.is)
  clear hd3
  go_wp2_with ((with_reducible refine (HP4.out).mono ?_); rintro e w4 ⟨rfl, rfl⟩)
  refine (HA0.out _ _ HM4.out.is).mono ?_
  rintro e w4 ⟨rfl, hd4⟩
  have HM5 := Lib.hid (HM4.out.mv hd4)
  clear hd4
  go_wp2
  go_ret
  exact ⟨rfl, HM5.out.bel⟩
end Go.Proofs.Ytbjjgjifaomdlaa.Mv
