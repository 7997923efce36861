/- What Put of package dedup does. Conditions: a table in memory. -/
import Derived.Test.YtbijaipoifpngaaDoorDFind
import Derived.BigRegion
set_option linter.unusedVariables false
set_option linter.unusedSimpArgs false
set_option maxRecDepth 100000
namespace Go.Proofs.YtbijaipoifpngaaDoor.Be
open Go Go.RowKit
def putM (q : List E) (c n : Int) (e : Int) (b : Bool) : List E × Int :=
  if (mayB c n && errB e) = true then (if n ≤ q[c.toNat]!.s then (q, 90) else (q.set c.toNat ⟨n, e, b⟩, 0)) else (q, 1)
theorem putM_ok {q : List E} (h : Okq q) (c n e : Int) (b : Bool) : Okq (putM q c n e b).1 := by
  unfold putM
  split
  · rename_i hm
    simp only [Bool.and_eq_true, mayB, cliB, seqB, errB, decide_eq_true_eq] at hm
    obtain ⟨⟨m1, m2, m3⟩, m4, m5⟩ := hm
    split
    · exact h
    · exact h.set _ ⟨⟨by show (0 : Int) ≤ n; omega, m3⟩, ⟨m4, m5⟩, fun (e0 : n = 0) => by omega⟩
  · exact h
theorem put_arg {w : World} (v : Value) {g : Bool} (H : Value) (e : Int) (b : Bool) (hg1 : ∀ w1, Below w.heap.size w w1 → GivenIs v g w1) (c n : Int) (h : g = false ∨ (mayB c n && errB e) = false) :
    Calls Tryd.prog 11 #[v, .int .i64 c, .int .i64 n, .agg #[.int .i64 e, .bool b, H]] w fun e w' => e = .returned (.int .i64 1) ∧ Below w.heap.size w w' := by
  have hc := Lib.hid (fun w1 => isClient_any c w1)
  have hs := Lib.hid (fun w1 => isSeq_any n w1)
  have he := Lib.hid (fun w1 => isErr_any e w1)
  unfold mayB at h
  generalize cliB c = bc at *
  generalize seqB n = bs at *
  generalize errB e = be at *
  have hB : Below w.heap.size w (w.alloc (.cells #[.int .i64 e, .bool b, H] 32)) := (Below.refl _ _).alloc (Nat.le_refl _) _
  have hg := Lib.hid (hg1 _ hB)
  unfold GivenIs at hg
  clear hg1
  rcases g with _ | _
  · go_enter Tryd.func11, Tryd.ntmps11
    go_wp2_with (first | (refine (hg.out).mono ?_; rintro e w1 ⟨rfl, rfl⟩))
    go_ret
    exact ⟨rfl, hB⟩
  · rcases bc with _ | _
    · go_enter Tryd.func11, Tryd.ntmps11
      go_wp2_with (first | (refine (hg.out).mono ?_; rintro e w1 ⟨rfl, rfl⟩) | (refine (hc.out _).mono ?_; rintro e w1 ⟨rfl, rfl⟩))
      go_ret
      exact ⟨rfl, hB⟩
    · rcases bs with _ | _
      · go_enter Tryd.func11, Tryd.ntmps11
        go_wp2_with (first | (refine (hg.out).mono ?_; rintro e w1 ⟨rfl, rfl⟩) | (refine (hc.out _).mono ?_; rintro e w1 ⟨rfl, rfl⟩) | (refine (hs.out _).mono ?_; rintro e w1 ⟨rfl, rfl⟩))
        go_ret
        exact ⟨rfl, hB⟩
      · obtain rfl : be = false := by simpa using h
        go_enter Tryd.func11, Tryd.ntmps11
        go_wp2_with (first | (refine (hg.out).mono ?_; rintro e w1 ⟨rfl, rfl⟩) | (refine (hc.out _).mono ?_; rintro e w1 ⟨rfl, rfl⟩) | (refine (hs.out _).mono ?_; rintro e w1 ⟨rfl, rfl⟩) | (refine (he.out _).mono ?_; rintro e w1 ⟨rfl, rfl⟩))
        go_ret
        exact ⟨rfl, hB⟩
def PutPost (p : Nat) (r : List E × Int) (w : World) (e : Ending) (w' : World) : Prop := e = .returned (.int .i64 r.2) ∧ TabAt w' p r.1 ∧ w.grownBy w' (some p)
theorem put_any {w : World} {p : Nat} {q : List E} (h : TabAt w p q) (c n e : Int) (b : Bool) (H : Value) : Calls Tryd.prog 11 #[.pointer (some ⟨p, 0, none⟩), .int .i64 c, .int .i64 n, .agg #[.int .i64 e, .bool b, H]] w (PutPost p (putM q c n e b) w) := by
  have hok := putM_ok h.ok c n e b
  unfold putM at hok ⊢
  by_cases hm : (mayB c n && errB e) = true
  · rw [if_pos hm] at hok ⊢
    have hm' := hm
    unfold mayB at hm
    simp only [Bool.and_eq_true] at hm
    obtain ⟨⟨hb, hs0⟩, he0⟩ := hm
    have hc := Lib.hid (fun w1 => isClient_any c w1)
    have hs := Lib.hid (fun w1 => isSeq_any n w1)
    have he := Lib.hid (fun w1 => isErr_any e w1)
    rw [hb] at hc
    rw [hs0] at hs
    rw [he0] at he
    obtain ⟨k, rfl, hk⟩ := cli_nat hb
    have hB : Below w.heap.size w (w.alloc (.cells #[.int .i64 e, .bool b, H] 32)) := (Below.refl _ _).alloc (Nat.le_refl _) _
    have hpl := h.row.lt
    have h2 := h.on hB
    have hfz := fun j => h2.row.frozen j
    obtain ⟨c1, c2, c3⟩ := h2.cell hk
    obtain ⟨d1, d2, d3⟩ := h.cell hk
    have hfw := fun j => h.row.frozen j
    have hg := Lib.hid (given_any h2)
    have HH := Lib.hid h2
    have HR := Lib.hid h.row
    rw [show ((k : Int)).toNat = k from rfl] at hok ⊢
    have hk2 : (k : Int) < 8 := by omega
    by_cases h1 : n ≤ q[k]!.s
    · rw [if_pos h1] at hok ⊢
      generalize q[k]! = x at *
      obtain ⟨xs, xe, xb⟩ := x
      simp only at c1 c2 c3 h1
      clear h hb hm' hs0 he0 h2
      go_enter Tryd.func11, Tryd.ntmps11
      go_wp2_with (first | (refine (hg.out).mono ?_; rintro e w1 ⟨rfl, rfl⟩) | (refine (hc.out _).mono ?_; rintro e w1 ⟨rfl, rfl⟩) | (refine (hs.out _).mono ?_; rintro e w1 ⟨rfl, rfl⟩) | (refine (he.out _).mono ?_; rintro e w1 ⟨rfl, rfl⟩))
      go_ret
      exact ⟨rfl, HH.out, grown_below hB _⟩
    · rw [if_neg h1] at hok ⊢
      have hset := Lib.hid (qc_set q k (by rw [h.ok.len]; exact hk) ⟨n, e, b⟩)
      generalize hx : q[k]! = x at *
      obtain ⟨xs, xe, xb⟩ := x
      simp only at c1 c2 c3 h1
      have hx := Lib.hid hx
      clear h hb hm' hs0 he0 h2
      go_enter Tryd.func11, Tryd.ntmps11
      go_wp2_with (first | (refine (hg.out).mono ?_; rintro e w1 ⟨rfl, rfl⟩) | (refine (hc.out _).mono ?_; rintro e w1 ⟨rfl, rfl⟩) | (refine (hs.out _).mono ?_; rintro e w1 ⟨rfl, rfl⟩) | (refine (he.out _).mono ?_; rintro e w1 ⟨rfl, rfl⟩))
      go_region
      all_goals go_wp2_with fail
      go_ret
      refine ⟨rfl, ⟨?_, hok⟩, ?_⟩
      · have h3 := ((HR.out.set (1 + k * 3) (.int .i64 n)).set (1 + k * 3 + 1) (.int .i64 e)).set (1 + k * 3 + 2) (.bool b)
        have e3 : (((Value.pointer (some ⟨p, 0, none⟩) :: qc q).set (1 + k * 3) (.int .i64 n)).set (1 + k * 3 + 1) (.int .i64 e)).set (1 + k * 3 + 2) (.bool b) = .pointer (some ⟨p, 0, none⟩) :: qc (q.set k ⟨n, e, b⟩) := by
          rw [hset.out, show 1 + k * 3 = k * 3 + 1 by omega, List.set_cons_succ, show k * 3 + 1 + 1 = (k * 3 + 1) + 1 by omega, List.set_cons_succ, show k * 3 + 1 + 2 = (k * 3 + 2) + 1 by omega, List.set_cons_succ]
        rw [e3] at h3
        exact (h3.al _).keep rfl
      · have g0 : w.grownBy w (some p) := grown_refl w _
        have g1 := grown_setCell (grown_setCell (grown_setCell g0 ⟨p, 1 + k * 3, none⟩ rfl (.int .i64 n)) ⟨p, 1 + k * 3 + 1, none⟩ rfl (.int .i64 e)) ⟨p, 1 + k * 3 + 2, none⟩ rfl (.bool b)
        refine grown_then g1 (grown_below ?_ _)
        exact ((Below.refl _ _).alloc (Nat.le_refl _) _).drew
  · rw [if_neg hm] at hok ⊢
    refine (put_arg _ (g := true) H e b (fun w1 hb => Below.given h hb) c n (.inr (by simpa using hm))).mono ?_
    rintro e w1 ⟨rfl, hb⟩
    exact ⟨rfl, h.on hb, grown_below hb _⟩
end Go.Proofs.YtbijaipoifpngaaDoor.Be
