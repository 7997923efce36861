/- What Text of the document's answers returns: the text of runes, or that a number is no rune. Conditions: up to 100000 numbers. -/
import Derived.Test.YtdhiipnnmonkoaaDoorText
set_option linter.unusedVariables false
namespace Go.Proofs.YtdhiipnnmonkoaaDoor
open Go Go.RowKit

theorem byte_info : (Tryd.prog.info? 5).map (fun i => (i.zero, i.size, i.bytes)) = some (some (.int .u8 0), 1, 1) := by kernel_rfl
/-- A row of bytes that the call owns, as a string. -/
theorem string_own {w : World} {base n : Nat} {v : Value} {l : List UInt8} (h : w.ownsRow base 5 1 v n (Lib.byteCells l)) : (convert 43 9 v).run Tryd.prog w = .ok (.string ⟨l.toArray⟩) w := by
  have hl : n = l.length := by have := h.1; rw [Lib.byteCells_length] at this; omega
  rcases h.2 with ⟨rfl, h0⟩ | ⟨g, cap, cur, rfl, _, _, _⟩
  · have : l = [] := List.eq_nil_of_length_eq_zero (by omega)
    subst this
    exact Lib.run_convert_nil_bytes w 43 9 5 0 Tryd.underlying43 Tryd.underlying5 Tryd.underlying9
  · subst hl
    refine run_convert_bytes_back w 43 9 5 ⟨g, 0, none⟩ cap l Tryd.underlying43 Tryd.underlying5 Tryd.underlying9 (fun j hj => ?_)
    exact h.cells (g := g) rfl j _ (by simp [Lib.byteCells, List.getElem?_eq_getElem hj])
theorem runeCells_one (r : Int) : ∀ u ∈ Lib.runeCells r, u.oneCell' = true := by
  intro u hu
  obtain ⟨x, _, rfl⟩ := List.mem_map.1 hu
  rfl
theorem runeCells_at (w : World) (r : Int) : ∀ j u, (Lib.runeCells r)[j]? = some u → (w.alloc (.cells (Lib.runeCells r).toArray 5)).cell? ((⟨w.heap.size, 0, none⟩ : Addr).add j) = some u := by
  intro j u hj
  have hb := heap_alloc_new w (.cells (Lib.runeCells r).toArray 5)
  have e : ((⟨w.heap.size, 0, none⟩ : Addr).add j) = ⟨w.heap.size, j, none⟩ := by unfold Addr.add; split <;> simp_all
  rw [e, cell_of_row _ _ _ _ _ _ hb]
  simpa using hj

set_option maxHeartbeats 2000000 in
theorem refText_any (A : Option Addr) (n c B : Nat) (l : List Int) (w : World) (hx : Reads w B 1 A n (ints l)) (hB : B ≤ w.heap.size) (hn : n ≤ 100000) :
    Calls Tryd.prog 17 #[.slice A n c] w (TextPost l w) := by
  have lx := hx.len
  have lx1 : n ≤ l.length := by omega
  have LX := Lib.hid lx
  clear lx
  obtain ⟨i0, hi, hz0, hz1, hz2⟩ := info_parts byte_info
  go_enter Tryd.func17, Tryd.ntmps17
  go_wp2
  go_loopw [4, 5] (fun v i wr => ∃ k : Nat, k ≤ n ∧ i = .int .i64 k ∧ Hid (Good (l.take k)) ∧ wr.ownsRow w.heap.size 5 1 v (enc (l.take k)).length (Lib.byteCells (enc (l.take k))) ∧ Below w.heap.size w wr) (fun _ i _ => n - (intOf i).toNat)
  case atStart => exact ⟨0, Nat.zero_le _, rfl, Lib.hid Good.nil, World.ownsRow_nil .., Below.refl _ _⟩
  case round =>
    obtain ⟨k, hk, rfl, HG, hown, hbw⟩ := hrel
    by_cases hlt : k < n
    · obtain ⟨ad, rfl, hbk, hc0⟩ := hx.int_at hlt
      have hc : wr.cell? (ad.add k) = some (.int .i64 (l.getD k 0)) := by
        rw [hbw.cell (by rw [block_of_add]; omega)]
        exact hc0
      have hsn := Lib.hid (take_snoc_getD l k (by omega))
      have hel := enc_take_len l k
      have hbad := not_good (l := l) (k := k) (by omega)
      generalize l.getD k 0 = X at hc hsn hbad
      clear hc0
      have hltz : (k : Int) < (n : Int) := by omega
      have hlr := encodeRune_len X
      cases hR : isR X with
      | true =>
        clear hbad
        have HR := Lib.hid hR
        clear hR
        go_wp2_with (go_at_call 33; refine (is_any _ _).mono ?_; rw [HR.out]; rintro e w' ⟨rfl, rfl⟩)
        refine (put_any _ _ HR.out).mono ?_
        rintro e w1 ⟨rfl, rfl⟩
        go_wp2_with (at_builtin; refine wpList_append_own _ rfl (.tmp 18) (.tmp 23) _ rfl w.heap.size 5 i0 (.int .u8 0) 1 1 Tryd.underlying43 hi hz0 hz1 hz2 rfl (by decide) _ _ _ rfl (hown.alloc _) ⟨wr.heap.size, 0, none⟩ (Lib.encodeRune X).length (Lib.encodeRune X).length (Lib.runeCells X) rfl ?c0 (runeCells_at wr X) (runeCells_one X) ?c3 ?c4 ?c5 ?_)
        case c0 => rw [Lib.runeCells_length]; simp
        case c3 => unfold maxLen; omega
        case c4 => omega
        case c5 => have := hbw.size; simp; omega
        intro v' w1' hown3' hgrow3' _
        have hbw3 : Below w.heap.size w w1' := (hbw.alloc hbw.size _).grown hgrow3' (by have := hbw.size; simp; omega) (fun k hk => (hown.lt k hk).1)
        go_wp2
        go_roundw
        case rel =>
          refine ⟨k + 1, by omega, by go_num, Lib.hid (by rw [hsn.out]; exact HG.out.append (Good.one HR.out)), ?_, hbw3⟩
          rw [hsn.out, enc_snoc, Lib.byteCells_append, Lib.byteCells_encodeRune, List.length_append]
          exact hown3'
        case measure => simp [intOf]; omega
      | false =>
        have HR := Lib.hid hR
        have HB := Lib.hid (hbad hR)
        clear hR hbad
        go_wp2_with (go_at_call 33; refine (is_any _ _).mono ?_; rw [HR.out]; rintro e w' ⟨rfl, rfl⟩)
        go_ret2
        exact ⟨fun hg => absurd hg HB.out, fun _ => ⟨rfl, hbw⟩⟩
    · obtain rfl : k = n := by omega
      have e1 : l.take k = l := List.take_of_length_le (by have := LX.out; omega)
      rw [e1] at hown HG
      clear e1
      have hcv := string_own hown
      go_wp2
      go_ret2
      exact ⟨fun _ => ⟨rfl, hbw⟩, fun hg => absurd HG.out hg⟩
end Go.Proofs.YtdhiipnnmonkoaaDoor
