/- The law's move, its numbers and its way, in memory; what answers do. Conditions: none. -/
import Derived.Test.YtbjjgjifaomdlaaMvAw
set_option linter.unusedVariables false
set_option linter.unusedSimpArgs false
set_option maxRecDepth 100000
namespace Go.Proofs.Ytbjjgjifaomdlaa.Mv
open Go Go.RowKit
open Po (M msgV)
theorem i64_mask (n : Int) (m : Nat) (hm : m < 63) : bits .and .i64 n ((2 ^ m - 1 : Nat) : Int) = n % ((2 ^ m : Nat) : Int) := by
  have hp : 2 ^ m ≤ 2 ^ 62 := Nat.pow_le_pow_right (by omega) (by omega)
  have hp0 : 0 < 2 ^ m := Nat.two_pow_pos m
  have hm2 : (BitVec.ofInt 64 ((2 ^ m - 1 : Nat) : Int)).toNat = 2 ^ m - 1 := by
    rw [BitVec.toNat_ofInt]
    generalize 2 ^ m = q at *
    omega
  have key : (BitVec.ofInt 64 n &&& BitVec.ofInt 64 ((2 ^ m - 1 : Nat) : Int)).toNat = (n % ((2 ^ 64 : Nat) : Int)).toNat % 2 ^ m := by
    rw [BitVec.toNat_and, BitVec.toNat_ofInt, hm2, Nat.and_two_pow_sub_one_eq_mod]
  show IntKind.i64.wrap ((BitVec.ofInt 64 n &&& BitVec.ofInt 64 ((2 ^ m - 1 : Nat) : Int)).toNat : Nat) = n % ((2 ^ m : Nat) : Int)
  rw [key, IntKind.wrap_i64]
  have hd : ((2 ^ m : Nat) : Int) ∣ ((2 ^ 64 : Nat) : Int) := Int.natCast_dvd_natCast.2 (Nat.pow_dvd_pow 2 (by omega))
  have e1 : (((n % ((2 ^ 64 : Nat) : Int)).toNat % 2 ^ m : Nat) : Int) = n % ((2 ^ m : Nat) : Int) := by
    rw [Int.natCast_emod, Int.toNat_of_nonneg (Int.emod_nonneg _ (by decide)), Int.emod_emod_of_dvd _ hd]
  rw [e1]
  have h1 := Int.emod_nonneg n (b := ((2 ^ m : Nat) : Int)) (by omega)
  have h2 := Int.emod_lt_of_pos n (b := ((2 ^ m : Nat) : Int)) (by omega)
  generalize n % ((2 ^ m : Nat) : Int) = r at *
  generalize 2 ^ m = q at *
  omega
structure LS (w W : World) (p : Nat) (m : Mv) (a b s f t : Int) : Prop where
  ms : MS w W p m
  ra : Row W w.heap.size 22 [.int .i64 a, .int .i64 b]
  rv : Row W (w.heap.size + 1) 24 [.int .i64 s, .int .i64 f, .int .i64 t]
  hp : w.heap.size + 1 < p
section
variable {w W W2 : World} {p N : Nat} {m m' : Mv} {a b s f t : Int}
theorem LS.on (h : LS w W p m a b s f t) (hb : Below W.heap.size W W2) : LS w W2 p m a b s f t := ⟨h.ms.on hb, h.ra.keep (hb.block _ h.ra.lt), h.rv.keep (hb.block _ h.rv.lt), h.hp⟩
theorem LS.mv (h : LS w W p m a b s f t) (hd : IsM W2 p m' ∧ Turn (fun b => b = p) W (fun b => b = p) W2) : LS w W2 p m' a b s f t :=
  ⟨h.ms.mv hd, h.ra.keep (hd.2.block _ h.ra.lt (by have := h.hp; omega)), h.rv.keep (hd.2.block _ h.rv.lt (by have := h.hp; omega)), h.hp⟩
theorem LS.drew (h : LS w W p m a b s f t) : LS w W.drew p m a b s f t := ⟨h.ms.drewN 1, h.ra, h.rv, h.hp⟩
theorem LS.drewN (h : LS w W p m a b s f t) (q : Nat) : LS w (W.drewN q) p m a b s f t := ⟨h.ms.drewN q, h.ra, h.rv, h.hp⟩
theorem LS.cells (h : LS w W p m a b s f t) : W.cell? ⟨w.heap.size, 0, none⟩ = some (.int .i64 a) ∧ W.cell? ⟨w.heap.size, 1, none⟩ = some (.int .i64 b) ∧ W.cell? ⟨w.heap.size + 1, 0, none⟩ = some (.int .i64 s) ∧ W.cell? ⟨w.heap.size + 1, 1, none⟩ = some (.int .i64 f) ∧ W.cell? ⟨w.heap.size + 1, 2, none⟩ = some (.int .i64 t) ∧ w.heap.size + 1 < W.heap.size :=
  ⟨h.ra.cell rfl, h.ra.cell rfl, h.rv.cell rfl, h.rv.cell rfl, h.rv.cell rfl, h.rv.lt⟩
theorem LS.grown (h : LS w W p m a b s f t) (hg : W.grownBy W2 (some N)) (h1 : w.heap.size + 1 < N) (hN : N ≠ p) (hs : W2.heap.size = W.heap.size) : LS w W2 p m a b s f t :=
  ⟨h.ms.grown hg hN (by omega) hs, row_grown h.ra hg (by omega), row_grown h.rv hg (by omega), h.hp⟩
/-- The law's beginning: its variables, and the new move. -/
theorem ls_start (w : World) (a b s f t : Int) {w1 : World} {p : Nat} (h1 : IsM w1 p m) (h2 : ((w.alloc (.cells #[.int .i64 a, .int .i64 b] 22)).alloc (.cells #[.int .i64 s, .int .i64 f, .int .i64 t] 24)).heap.size ≤ p)
    (hb : Below ((w.alloc (.cells #[.int .i64 a, .int .i64 b] 22)).alloc (.cells #[.int .i64 s, .int .i64 f, .int .i64 t] 24)).heap.size ((w.alloc (.cells #[.int .i64 a, .int .i64 b] 22)).alloc (.cells #[.int .i64 s, .int .i64 f, .int .i64 t] 24)) w1) : LS w w1 p m a b s f t := by
  have r0 := (Row.new w 22 [.int .i64 a, .int .i64 b])
  have r1 := r0.keep (heap_alloc_lt _ (.cells #[.int .i64 s, .int .i64 f, .int .i64 t] 24) r0.lt)
  have v1 := row_new1 w (.cells #[.int .i64 a, .int .i64 b] 22) 24 [.int .i64 s, .int .i64 f, .int .i64 t]
  have b1 : Below w.heap.size w ((w.alloc (.cells #[.int .i64 a, .int .i64 b] 22)).alloc (.cells #[.int .i64 s, .int .i64 f, .int .i64 t] 24)) := ((Below.refl _ w).alloc (Nat.le_refl _) _).alloc (by simp) _
  have hp : w.heap.size + 1 < p := by simp at h2; omega
  exact ⟨⟨h1, by omega, b1.trans (hb.mono b1.size)⟩, r1.keep (hb.block _ r1.lt), v1.keep (hb.block _ v1.lt), hp⟩
end
theorem asks_le (p : Int) : 0 ≤ asks p ∧ asks p ≤ 17 := by
  unfold asks
  repeat' split
  all_goals omega
/-- The move behind i answers, and what it says. -/
def aft (a b s f t : Int) (i : Nat) : Mv := after (newM a b s f t) 5 text4 i
section
variable {a b s f t : Int} {i : Nat}
theorem aft_fit (h : okN a b s f t) (hi : i ≤ 5) : FitV (aft a b s f t i) := by
  obtain ⟨h1, h2, h3, h4, h5, h6⟩ := after_ph a b s f t 5 text4 i
  refine ⟨?_, ?_⟩
  · show 1 ≤ (after (newM a b s f t) 5 text4 i).ph ∧ _
    rw [aft, h1]
    omega
  · rw [aft, h2, h3, h4, h5, h6]
    exact h
theorem aft_ph : (aft a b s f t i).ph = (i : Int) + 1 := (after_ph a b s f t 5 text4 i).1
theorem aft_open (hi : i < 5) : open_ (aft a b s f t i) = true := by
  unfold open_
  rw [aft_ph]
  simp
  omega
theorem answer_step (m : Mv) (x : M) : stepM m (answerM x) = stepM m { nilM with vr := 5, tx := text4 } := rfl
theorem hears_said {m : Mv} (h : FitV m) (ho : open_ m = true) : hearsM m (nodeM m) (answerM (saidM m)) = (stepM m { nilM with vr := 5, tx := text4 }, true) := by
  rw [← answer_step m (saidM m)]
  exact hears_answer h ho _ rfl rfl rfl
theorem hears_aft (h : okN a b s f t) (hi : i < 5) : hearsM (aft a b s f t i) (nodeM (aft a b s f t i)) (answerM (saidM (aft a b s f t i))) = (aft a b s f t (i + 1), true) :=
  hears_said (aft_fit h (by omega)) (aft_open hi)
theorem says_aft (hi : i < 5) : saysM (aft a b s f t i) = (nodeM (aft a b s f t i), saidM (aft a b s f t i), true) := says_open (aft_open hi)
theorem said_kd (m : Mv) : 0 ≤ (saidM m).kd ∧ (saidM m).kd ≤ 100 := by
  have := asks_le m.ph
  show 0 ≤ asks m.ph ∧ asks m.ph ≤ 100
  omega
theorem text_small : text4.size ≤ 281474976710656 := by decide
end
/-- A message's cells, written out. -/
abbrev mA (x : M) (A : Option Addr) (n c : Nat) (A' : Option Addr) (n' c' : Nat) : Array Value := #[.int .i64 x.kd, .int .i64 x.sh, .int .i64 x.ep, .int .i64 x.cl, .int .i64 x.sq, .int .i64 x.nn, .int .i64 x.vr, .int .i64 x.lm, .int .i64 x.ok, .int .i64 x.oi, .slice A n c, .int .i64 x.kk, .int .i64 x.er, .bool x.wa, .slice A' n' c', .string x.tx]
/-- What is said, its answer, and that it is heard. -/
theorem trio {m : Mv} (h : FitV m) (ho : open_ m = true) : ∃ (ND : Int) (x y : M), nodeM m = ND ∧ saidM m = x ∧ answerM x = y ∧
    (∀ w, Calls Try.prog 19 #[.agg (mA x none 0 0 none 0 0)] w (fun e w' => e = .returned (.agg (mA y none 0 0 none 0 0)) ∧ Below w.heap.size w w')) ∧
    (∀ w p, IsM w p m → Calls Try.prog 17 #[ptr p] w (fun e w' => e = .returned (.tuple #[.int .i64 ND, .agg (mA x none 0 0 none 0 0), .bool true]) ∧ Below w.heap.size w w')) ∧
    (∀ w p, IsM w p m → Calls Try.prog 15 #[ptr p, .int .i64 ND, .agg (mA y none 0 0 none 0 0)] w (Does p (.bool true) (stepM m { nilM with vr := 5, tx := text4 }) w)) := by
  refine ⟨nodeM m, saidM m, answerM (saidM m), rfl, rfl, rfl, fun w => answer_any _ (said_kd m) none 0 0 none 0 0 w, fun w p hi => says_to hi (says_open ho), fun w p hi => ?_⟩
  exact hears_to hi (nodeM m) (answerM (saidM m)) (hears_said h ho) (fun _ _ => text_small) none 0 0 none 0 0
/-- Contracts at written-out cells. -/
theorem answer_to (x : M) (hx : 0 ≤ x.kd ∧ x.kd ≤ 100) (w : World) :
    Calls Try.prog 19 #[.agg #[.int .i64 x.kd, .int .i64 x.sh, .int .i64 x.ep, .int .i64 x.cl, .int .i64 x.sq, .int .i64 x.nn, .int .i64 x.vr, .int .i64 x.lm, .int .i64 x.ok, .int .i64 x.oi, .slice none 0 0, .int .i64 x.kk, .int .i64 x.er, .bool x.wa, .slice none 0 0, .string x.tx]] w (fun e w' => e = .returned (.agg (msgV (answerM x) none 0 0 none 0 0).toArray) ∧ Below w.heap.size w w') :=
  answer_any x hx none 0 0 none 0 0 w
end Go.Proofs.Ytbjjgjifaomdlaa.Mv
