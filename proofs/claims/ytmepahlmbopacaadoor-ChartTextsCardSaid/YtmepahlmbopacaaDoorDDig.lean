/- What digits of the document's answers returns. Conditions: a number that is not below nought. -/
import Derived.Test.YtmepahlmbopacaaDoorDRefK
set_option linter.unusedVariables false
set_option linter.unusedSimpArgs false
set_option maxRecDepth 100000
namespace Go.Proofs.YtmepahlmbopacaaDoor.Be
open Go Go.RowKit
def D' (a : Nat) : List UInt8 := if a = 0 then [] else Lib.decDigits a
theorem D'_step {a : Nat} (h : a ≠ 0) : D' a = D' (a / 10) ++ [UInt8.ofNat (48 + a % 10)] := by
  unfold D'
  rw [if_neg h]
  by_cases h10 : a < 10
  · rw [if_pos (by omega), dec_small h10, Nat.mod_eq_of_lt h10]
    rfl
  · rw [if_neg (by omega), dec_big h10]
theorem D'_len {a : Nat} (h : a ≤ 9223372036854775807) : (D' a).length ≤ 19 := by
  unfold D'
  split
  · simp
  · exact dec_len 19 a (by omega) (by omega)
structure DgR (n : Nat) (w wr : World) (low : Value) (a : Nat) (bs : List UInt8) : Prop where
  own : wr.ownsRow w.heap.size 5 1 low bs.length (Lib.byteCells bs)
  bel : Below w.heap.size w wr
  dig : D' n = D' a ++ bs.reverse
set_option maxHeartbeats 8000000 in
theorem digits_nat (n : Nat) (hn : n ≤ 9223372036854775807) (w : World) : Calls Tryd.prog 65 #[.int .i64 (n : Int)] w (Gives (.string ⟨(Lib.itoa n).toArray⟩) w) := by
  by_cases h0 : n = 0
  · subst h0
    have e : (⟨(Lib.itoa ((0 : Nat) : Int)).toArray⟩ : ByteArray) = ⟨#[48]⟩ := by rw [itoa_nat, dec_small (by omega)]; rfl
    rw [e]
    go_enter Tryd.func65, Tryd.ntmps65
    go_wp2_with fail
    go_ret
    exact ⟨rfl, Below.refl _ _⟩
  · have hnb : ((n : Int) == 0) = false := by simp; omega
    have hitoa : Lib.itoa (n : Int) = D' n := by rw [itoa_nat]; unfold D'; rw [if_neg h0]
    rw [hitoa]
    have hl19 := D'_len hn
    have hnz : (n : Int) ≤ 9223372036854775807 := by omega
    have hn0 : ¬ (n : Int) < 0 := by omega
    clear hitoa
    go_enter Tryd.func65, Tryd.ntmps65
    go_wp2_with fail
    go_loopw [3, 4] (fun low k wr => ∃ (a : Nat) (bs : List UInt8), k = .int .i64 (a : Int) ∧ a ≤ n ∧ DgR n w wr low a bs) (fun _ k _ => (intOf k).toNat)
    case atStart => exact ⟨n, [], rfl, Nat.le_refl _, World.ownsRow_nil .., Below.refl _ _, by simp⟩
    case round =>
      obtain ⟨a, bs, rfl, ha, hR⟩ := hrel
      have hbl : bs.length ≤ 19 := by
        have := congrArg List.length hR.dig
        rw [List.length_append, List.length_reverse] at this
        omega
      by_cases ha0 : a = 0
      · subst ha0
        rw [show ((0 : Nat) : Int) = 0 from rfl]
        have hdig := hR.dig
        simp only [D', if_true, List.nil_append] at hdig
        have HD := Lib.hid (show D' n = bs.reverse from hdig)
        have hown := hR.own
        have hbel := hR.bel
        have hsz := hbel.size
        clear hR hdig
        have hpos : 0 < bs.length := by
          have h1 := congrArg List.length HD.out
          rw [List.length_reverse] at h1
          have h2 := D'_step h0
          have h3 := congrArg List.length h2
          rw [List.length_append, List.length_singleton] at h3
          omega
        obtain ⟨g, cap, rfl, hg1, hg2⟩ := hown.form hpos
        have hcs := hown.cells (g := g) rfl
        obtain ⟨L, hL⟩ : ∃ L, bs.length = L := ⟨_, rfl⟩
        have HL := Lib.hid hL
        rw [hL]
        rw [hL] at hpos hbl
        have hLz : IntKind.i64.wrap ((L : Int) - 1) = (L : Int) - 1 := by rw [IntKind.wrap_i64]; omega
        clear hL hown
        obtain ⟨wo, hwo⟩ : ∃ wo, wo = wr := ⟨_, rfl⟩
        subst hwo
        go_wp2_with fail
        go_loopw [6, 7] (fun out i wr => ∃ j : Nat, i = .int .i64 ((j : Int) - 1) ∧ j ≤ L ∧ wr.ownsRow wo.heap.size 5 1 out (bs.drop j).reverse.length (Lib.byteCells (bs.drop j).reverse) ∧ Below wo.heap.size wo wr) (fun _ i _ => (intOf i + 1).toNat)
        case atStart =>
          refine ⟨L, rfl, Nat.le_refl _, ?_, Below.refl _ _⟩
          rw [List.drop_of_length_le (by have := HL.out; omega)]
          exact World.ownsRow_nil ..
        case round =>
          obtain ⟨j, rfl, hj, hown2, hb2⟩ := hrel
          rcases j with _ | j
          · rw [List.drop_zero] at hown2
            have hcv := conv_row hown2 (by rw [List.length_reverse]; have := HL.out; omega)
            rw [← HD.out] at hcv
            have HCV := Lib.hid (hcv 80 9 Tryd.underlying80 Tryd.underlying9)
            have hcv2 := HCV.out
            clear hown2 hcv
            go_wp2_with fail
            go_ret
            exact ⟨rfl, hbel.trans (hb2.mono hsz)⟩
          · have e1 : ((j + 1 : Nat) : Int) - 1 = (j : Int) := by omega
            rw [e1]
            have hjl : j < bs.length := by have := HL.out; omega
            have hjz : (j : Int) < (L : Int) := by omega
            have hjL : j < L := by omega
            have hdr : (bs.drop j).reverse = (bs.drop (j + 1)).reverse ++ [bs[j]] := by
              rw [List.drop_eq_getElem_cons hjl, List.reverse_cons]
            have cj : wr.cell? ⟨g, j, none⟩ = some (.int .u8 (bs[j].toNat : Int)) := by
              have h1 := hcs j (.int .u8 (bs[j].toNat : Int)) (by unfold Lib.byteCells; rw [List.getElem?_map, List.getElem?_eq_getElem hjl]; rfl)
              rw [add_flat, Nat.zero_add] at h1
              exact (hb2.cell (p := ⟨g, j, none⟩) hg2).trans h1
            have hjw : IntKind.i64.wrap ((j : Int) - 1) = (j : Int) - 1 := by rw [IntKind.wrap_i64]; omega
            have hlen : (bs.drop (j + 1)).reverse.length ≤ 1000 := by rw [List.length_reverse, List.length_drop]; have := HL.out; omega
            generalize bs[j] = c at *
            have HDR := Lib.hid hdr
            have HOW2 := Lib.hid hown2
            have hsz2 := hb2.size
            clear hdr e1 hown2
            go_wp2_with (at_builtin; refine append_byte rfl (.tmp 39) (.tmp 44) rfl wo.heap.size _ _ (Lib.byteCells (bs.drop (j + 1)).reverse) (.int .u8 (c.toNat : Int)) rfl rfl HOW2.out rfl (by omega) hsz2 ?_; intro v3 w3 hown3 hgr3 hob3; have HOW := Lib.hid hown3; have HGR := Lib.hid hgr3; clear hown3 hgr3 hob3)
            refine ⟨⟨j, rfl, by omega, ?_, hb2.grown HGR.out hsz2 (fun g hg => (HOW2.out.lt g hg).1)⟩, by simp [intOf]⟩
            rw [HDR.out]
            exact own_byte c rfl HOW.out
      · have hab : ((a : Int) != 0) = true := by simp; omega
        have haz : (a : Int) ≤ 9223372036854775807 := by omega
        have ha1 : 0 < (a : Int) := by omega
        obtain ⟨d, hd, hd10⟩ : ∃ d : Nat, (a : Int) % 10 = (d : Int) ∧ d < 10 := ⟨a % 10, by omega, by omega⟩
        obtain ⟨a', ha'⟩ : ∃ a' : Nat, (a : Int) / 10 = (a' : Int) := ⟨a / 10, by omega⟩
        have hst := D'_step ha0
        rw [show a / 10 = a' by omega, show a % 10 = d by omega] at hst
        have hown0 := hR.own
        have hbel := hR.bel
        have HDG := Lib.hid hR.dig
        have HST := Lib.hid hst
        have hle : a' ≤ n := by omega
        have hlt : a' < a := by omega
        have HC := Lib.hid (u8_ofNat (n := 48 + d) (by omega))
        clear hst hR
        go_wp2_with (at_builtin; refine append_byte rfl (.tmp 21) (.tmp 25) rfl w.heap.size _ bs.length (Lib.byteCells bs) (.int .u8 (48 + (d : Int))) rfl rfl hown0 rfl (by omega) hbel.size ?_; intro v1 w1 hown1 hgr1 hob1; have HOW := Lib.hid hown1; have HGR := Lib.hid hgr1; clear hown1 hgr1 hob1)
        refine ⟨⟨a', bs ++ [UInt8.ofNat (48 + d)], rfl, hle, own_byte (UInt8.ofNat (48 + d)) (by have := HC.out; omega) HOW.out, hbel.grown HGR.out hbel.size (fun g hg => (hown0.lt g hg).1), ?_⟩, by simp [intOf]; omega⟩
        rw [HDG.out, HST.out]
        simp
end Go.Proofs.YtmepahlmbopacaaDoor.Be
