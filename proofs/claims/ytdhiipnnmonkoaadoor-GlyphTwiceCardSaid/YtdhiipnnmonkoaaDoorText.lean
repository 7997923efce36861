/- What Text of package glyph and Text of the document's answers return: the text of runes, or that a number is no rune. Conditions: up to 100000 numbers. -/
import Derived.Test.YtdhiipnnmonkoaaDoorBuild
import Derived.Test.YtdhiipnnmonkoaaDoorPut
import Derived.Test.YtdhiipnnmonkoaaDoorMem
import Derived.LoopTactic
import Derived.Laws.IdiomStrings
import Derived.Lib.BufferRead
import Derived.Lib.Hide
set_option linter.unusedVariables false
namespace Go.Proofs.YtdhiipnnmonkoaaDoor
open Go Go.RowKit

theorem isRune_any (n : Int) (w : World) : Calls Tryd.prog 30 #[.int .i64 n] w fun e w' => e = .returned (.bool (isR n)) ∧ w = w' := by
  by_cases h0 : 0 ≤ n
  · by_cases h1 : n ≤ 1114111
    · have hv : Lib.validRune n = isR n := by unfold Lib.validRune isR; rw [decide_eq_decide]; omega
      have HV := Lib.hid hv
      clear hv
      go_enter Tryd.func30, Tryd.ntmps30
      go_wp2_with (go_at_call 46; refine (Tryd.utf8_ValidRune _ _).mono ?_; rintro e w' ⟨rfl, rfl⟩)
      go_ret
      exact ⟨ret_bool HV.out, rfl⟩
    · have e : isR n = false := by rw [Bool.eq_false_iff, Ne, isR_iff]; omega
      rw [e]
      go_enter Tryd.func30, Tryd.ntmps30
      go_wp2
      go_ret
      exact ⟨ret_bool (by first | rfl | (simp; omega)), rfl⟩
  · have e : isR n = false := by rw [Bool.eq_false_iff, Ne, isR_iff]; omega
    rw [e]
    go_enter Tryd.func30, Tryd.ntmps30
    go_wp2
    go_ret
    exact ⟨ret_bool (by first | rfl | (simp; omega)), rfl⟩

def TextOk (l : List Int) (w : World) (e : Ending) (w' : World) : Prop := e = .returned (.tuple #[.string ⟨(enc l).toArray⟩, .int .i64 0]) ∧ Below w.heap.size w w'
def TextNo (w : World) (e : Ending) (w' : World) : Prop := e = .returned (.tuple #[.string ⟨#[]⟩, .int .i64 10]) ∧ Below w.heap.size w w'
def TextPost (l : List Int) (w : World) (e : Ending) (w' : World) : Prop := (Good l → TextOk l w e w') ∧ (¬ Good l → TextNo w e w')

theorem not_good {l : List Int} {k : Nat} (hk : k < l.length) (h : isR (l.getD k 0) = false) : ¬ Good l := by
  intro hg
  have := hg (l.getD k 0) (by rw [List.getD_eq_getElem?_getD, List.getElem?_eq_getElem hk]; exact List.getElem_mem hk)
  rw [h] at this
  cases this
theorem take_snoc_getD (l : List Int) (k : Nat) (hk : k < l.length) : l.take (k + 1) = l.take k ++ [l.getD k 0] := by
  rw [List.take_succ_eq_append_getElem hk, List.getD_eq_getElem?_getD, List.getElem?_eq_getElem hk]
  rfl
theorem enc_take_len (l : List Int) (k : Nat) : (enc (l.take k)).length ≤ 4 * k := by
  have h1 := (enc_len (l.take k)).2
  have h2 : (l.take k).length ≤ k := List.length_take_le _ _
  omega

set_option maxHeartbeats 2000000 in
theorem text_any (A : Option Addr) (n c B : Nat) (l : List Int) (w : World) (hx : Reads w B 1 A n (ints l)) (hB : B ≤ w.heap.size) (hn : n ≤ 100000) :
    Calls Tryd.prog 16 #[.slice A n c] w (TextPost l w) := by
  have lx := hx.len
  have lx1 : n ≤ l.length := by omega
  have LX := Lib.hid lx
  clear lx
  go_enter Tryd.func16, Tryd.ntmps16
  go_wp2
  go_loopw [9] (fun i wr => ∃ k : Nat, k ≤ n ∧ i = .int .i64 k ∧ Hid (Good (l.take k)) ∧ Lib.IsBuilderF 45 5 w.heap.size w.heap.size (Lib.byteCells (enc (l.take k))) wr ∧ Below w.heap.size w wr) (fun i _ => n - (intOf i).toNat)
  case atStart => exact ⟨0, Nat.zero_le _, rfl, Lib.hid Good.nil, Lib.IsBuilderF.of (Lib.fresh_isBuilder 45 5 w), (Below.refl _ w).alloc (Nat.le_refl _) _⟩
  case round =>
    obtain ⟨k, hk, rfl, HG, hI, hbw⟩ := hrel
    by_cases hlt : k < n
    · obtain ⟨ad, rfl, hbk, hc0⟩ := hx.int_at hlt
      have hc : wr.cell? (ad.add k) = some (.int .i64 (l.getD k 0)) := by
        rw [hbw.cell (by rw [block_of_add]; omega)]
        exact hc0
      have hsn := Lib.hid (take_snoc_getD l k (by omega))
      have hel := enc_take_len l k
      have hbad := not_good (l := l) (k := k) (by omega)
      generalize l.getD k 0 = X at hc hsn hbad
      clear hc0
      have hltz : (k : Int) < (n : Int) := by omega
      cases hR : isR X with
      | true =>
        have hp := (isR_iff X).1 hR
        obtain ⟨hp0, hp1, _⟩ := hp
        clear hbad
        have HR := Lib.hid hR
        clear hR
        go_wp2_with (go_at_call 30; refine (isRune_any _ _).mono ?_; rw [HR.out]; rintro e w' ⟨rfl, rfl⟩)
        refine (WriteRune_k w.heap.size w.heap.size _ X (by omega) (by omega) _ hI (by rw [Lib.byteCells_length]; omega) hbw.size).mono ?_
        rintro e w1 ⟨rfl, h1, b1, k1⟩
        go_wp2
        go_roundw
        case rel =>
          refine ⟨k + 1, by omega, by go_num, Lib.hid (by rw [hsn.out]; exact HG.out.append (Good.one HR.out)), ?_, hbw.trans b1⟩
          rw [hsn.out, enc_snoc, Lib.byteCells_append, Lib.byteCells_encodeRune]
          exact Or.inr h1
        case measure => simp [intOf]; omega
      | false =>
        have HR := Lib.hid hR
        have HB := Lib.hid (hbad hR)
        clear hR hbad
        go_wp2_with (go_at_call 30; refine (isRune_any _ _).mono ?_; rw [HR.out]; rintro e w' ⟨rfl, rfl⟩)
        go_ret2
        exact ⟨fun hg => absurd hg HB.out, fun _ => ⟨rfl, hbw⟩⟩
    · obtain rfl : k = n := by omega
      have e1 : l.take k = l := List.take_of_length_le (by have := LX.out; omega)
      rw [e1] at hI HG
      clear e1
      go_wp2_with (go_at_call 32; refine (Tryd.Builder_String_any_k w.heap.size w.heap.size _ _ hI hbw.size).mono ?_; rintro e w1 ⟨rfl, _, b1, _⟩)
      go_ret2
      exact ⟨fun _ => ⟨rfl, hbw.trans b1⟩, fun hg => absurd HG.out hg⟩
end Go.Proofs.YtdhiipnnmonkoaaDoor
