/- What Find and Put of package dedup do. Conditions: a table in memory. -/
import Derived.Test.YtbijaipoifpngaaDoorDNew
set_option linter.unusedVariables false
set_option linter.unusedSimpArgs false
set_option maxRecDepth 100000
namespace Go.Proofs.YtbijaipoifpngaaDoor.Be
open Go Go.RowKit
def mayB (c n : Int) : Bool := cliB c && seqB n
def findM (q : List E) (c n : Int) : (Int × Bool) × Int :=
  if mayB c n = true then (if n < q[c.toNat]!.s then ((0, false), 90) else if q[c.toNat]!.s < n then ((0, false), 3) else ((q[c.toNat]!.e, q[c.toNat]!.b), 0)) else ((0, false), 1)
def repV (r : Int × Bool) : Value := .agg #[.int .i64 r.1, .bool r.2, .slice none 0 0]
theorem cli_nat {c : Int} (h : cliB c = true) : ∃ k : Nat, c = (k : Int) ∧ k < 8 := by
  unfold cliB at h
  simp at h
  exact ⟨c.toNat, by omega, by omega⟩
/-- Whether a table was given, in whatever world it is asked. -/
def GivenIs (v : Value) (g : Bool) : World → Prop := fun w => Calls Tryd.prog 21 #[v] w fun e w' => e = .returned (.bool g) ∧ w = w'
theorem find_arg {w : World} (v : Value) {g : Bool} (hg1 : ∀ w1, Below w.heap.size w w1 → GivenIs v g w1) (c n : Int) (h : g = false ∨ mayB c n = false) :
    Calls Tryd.prog 12 #[v, .int .i64 c, .int .i64 n] w fun e w' => e = .returned (.tuple #[repV (0, false), .int .i64 1]) ∧ Below w.heap.size w w' := by
  have hc := Lib.hid (fun w1 => isClient_any c w1)
  have hs := Lib.hid (fun w1 => isSeq_any n w1)
  unfold mayB at h
  generalize cliB c = bc at *
  generalize seqB n = bs at *
  have hB : Below w.heap.size w (w.alloc (.cells #[.int .i64 0, .bool false, .slice none 0 0] 32)) := (Below.refl _ _).alloc (Nat.le_refl _) _
  have hg := Lib.hid (hg1 _ hB)
  unfold GivenIs at hg
  clear hg1
  rcases g with _ | _
  · go_enter Tryd.func12, Tryd.ntmps12
    go_wp2_with (first | (refine (hg.out).mono ?_; rintro e w1 ⟨rfl, rfl⟩))
    refine bodyPost_ret (v := .tuple #[repV (0, false), .int .i64 1]) (by simp [results, Tryd.results12, go_sem, repV]) rfl ⟨rfl, ?_⟩
    exact hB
  · rcases bc with _ | _
    · go_enter Tryd.func12, Tryd.ntmps12
      go_wp2_with (first | (refine (hg.out).mono ?_; rintro e w1 ⟨rfl, rfl⟩) | (refine (hc.out _).mono ?_; rintro e w1 ⟨rfl, rfl⟩))
      refine bodyPost_ret (v := .tuple #[repV (0, false), .int .i64 1]) (by simp [results, Tryd.results12, go_sem, repV]) rfl ⟨rfl, ?_⟩
      exact hB
    · obtain rfl : bs = false := by simpa using h
      go_enter Tryd.func12, Tryd.ntmps12
      go_wp2_with (first | (refine (hg.out).mono ?_; rintro e w1 ⟨rfl, rfl⟩) | (refine (hc.out _).mono ?_; rintro e w1 ⟨rfl, rfl⟩) | (refine (hs.out _).mono ?_; rintro e w1 ⟨rfl, rfl⟩))
      refine bodyPost_ret (v := .tuple #[repV (0, false), .int .i64 1]) (by simp [results, Tryd.results12, go_sem, repV]) rfl ⟨rfl, ?_⟩
      exact hB
theorem Below.given {w w1 : World} {p : Nat} {q : List E} (h : TabAt w p q) (hb : Below w.heap.size w w1) : GivenIs (.pointer (some ⟨p, 0, none⟩)) true w1 := given_any (h.on hb)
theorem find_any {w : World} {p : Nat} {q : List E} (h : TabAt w p q) (c n : Int) : Calls Tryd.prog 12 #[.pointer (some ⟨p, 0, none⟩), .int .i64 c, .int .i64 n] w fun e w' => e = .returned (.tuple #[repV (findM q c n).1, .int .i64 (findM q c n).2]) ∧ Below w.heap.size w w' := by
  unfold findM
  by_cases hm : mayB c n = true
  · rw [if_pos hm]
    have hm' := hm
    unfold mayB at hm
    simp only [Bool.and_eq_true] at hm
    obtain ⟨hb, hs0⟩ := hm
    have hc := Lib.hid (fun w1 => isClient_any c w1)
    have hs := Lib.hid (fun w1 => isSeq_any n w1)
    rw [hb] at hc
    rw [hs0] at hs
    obtain ⟨k, rfl, hk⟩ := cli_nat hb
    have hB : Below w.heap.size w (w.alloc (.cells #[.int .i64 0, .bool false, .slice none 0 0] 32)) := (Below.refl _ _).alloc (Nat.le_refl _) _
    have hB2 : ∀ u0 u1 u2, Below w.heap.size w ((w.alloc (.cells #[.int .i64 0, .bool false, .slice none 0 0] 32)).alloc (.cells #[u0, u1, u2] 56)) := fun u0 u1 u2 => hB.alloc (by simp) _
    have hpl := h.row.lt
    obtain ⟨c1, c2, c3⟩ := (h.on hB).cell hk
    have hg := Lib.hid (given_any (h.on hB))
    rw [show ((k : Int)).toNat = k from rfl]
    generalize q[k]! = x at *
    obtain ⟨xs, xe, xb⟩ := x
    simp only at c1 c2 c3 ⊢
    have hk2 : (k : Int) < 8 := by omega
    clear h hb hm' hs0
    by_cases h1 : n < xs
    · rw [if_pos h1]
      go_enter Tryd.func12, Tryd.ntmps12
      go_wp2_with (first | (refine (hg.out).mono ?_; rintro e w1 ⟨rfl, rfl⟩) | (refine (hc.out _).mono ?_; rintro e w1 ⟨rfl, rfl⟩) | (refine (hs.out _).mono ?_; rintro e w1 ⟨rfl, rfl⟩))
      refine bodyPost_ret (v := .tuple #[repV (0, false), .int .i64 90]) (by simp [results, Tryd.results12, go_sem, repV]) rfl ⟨rfl, ?_⟩
      exact hB2 _ _ _
    · rw [if_neg h1]
      by_cases h2 : xs < n
      · rw [if_pos h2]
        go_enter Tryd.func12, Tryd.ntmps12
        go_wp2_with (first | (refine (hg.out).mono ?_; rintro e w1 ⟨rfl, rfl⟩) | (refine (hc.out _).mono ?_; rintro e w1 ⟨rfl, rfl⟩) | (refine (hs.out _).mono ?_; rintro e w1 ⟨rfl, rfl⟩))
        refine bodyPost_ret (v := .tuple #[repV (0, false), .int .i64 3]) (by simp [results, Tryd.results12, go_sem, repV]) rfl ⟨rfl, ?_⟩
        exact hB2 _ _ _
      · rw [if_neg h2]
        go_enter Tryd.func12, Tryd.ntmps12
        go_wp2_with (first | (refine (hg.out).mono ?_; rintro e w1 ⟨rfl, rfl⟩) | (refine (hc.out _).mono ?_; rintro e w1 ⟨rfl, rfl⟩) | (refine (hs.out _).mono ?_; rintro e w1 ⟨rfl, rfl⟩))
        refine bodyPost_ret (v := .tuple #[repV (xe, xb), .int .i64 0]) (by simp [results, Tryd.results12, go_sem, repV]) rfl ⟨rfl, ?_⟩
        exact ((Below.refl _ _).alloc (Nat.le_refl _) _).alloc (by simp) _
  · have hm : mayB c n = false := by simpa using hm
    rw [hm]
    exact find_arg _ (g := true) (fun w1 hb => Below.given h hb) c n (.inr hm)
end Go.Proofs.YtbijaipoifpngaaDoor.Be
