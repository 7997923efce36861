/- A call of the document's road: what lies there; there, Waits, Clear. Conditions: its lists lie apart from blocks that turn. -/
import Derived.Test.YtikbgaomiliefaaRoWith
import Derived.Deep.RegionHeld3
import Derived.BigRegion
set_option linter.unusedVariables false
set_option linter.unusedSimpArgs false
set_option maxRecDepth 100000
namespace Go.Proofs.Ytikbgaomiliefaa.Ro
open Go Go.RowKit
/-- A call's own two roads: the one that came in, the one that it returns. -/
structure Fr (w w1 : World) (X : Nat) (A : Option Addr) (n c : Nat) : Prop where
  box : Row w1 w.heap.size 29 [.slice A n c]
  res : Row w1 X 29 [.slice none 0 0]
  below : Below w.heap.size w w1
  lo : w.heap.size ≤ X
/-- Blocks that turn, and the one that it returns. -/
def F2 (F : Nat → Prop) (X : Nat) (b : Nat) : Prop := F b ∨ b = X
section
variable {w w1 w2 : World} {F : Nat → Prop} {Q : Rd} {A : Option Addr} {n c X : Nat}
theorem Fr.on (h : Fr w w1 X A n c) (hb : Below w1.heap.size w1 w2) : Fr w w2 X A n c := ⟨h.box.keep (hb.block _ h.box.lt), h.res.keep (hb.block _ h.res.lt), h.below.trans (hb.mono h.below.size), h.lo⟩
theorem Fr.cells (h : Fr w w1 X A n c) : w1.cell? ⟨w.heap.size, 0, none⟩ = some (.slice A n c) ∧ w1.cell? ⟨X, 0, none⟩ = some (.slice none 0 0) ∧ w1.frozen? ⟨X, 0, none⟩ = false ∧ w.heap.size < w1.heap.size ∧ X < w1.heap.size :=
  ⟨h.box.cell rfl, h.res.cell rfl, h.res.frozen 0, h.box.lt, h.res.lt⟩
theorem fr_start (w : World) (A : Option Addr) (n c : Nat) : Fr w ((w.alloc (.cells #[.slice A n c] 29)).alloc (.cells #[.slice none 0 0] 29)) (w.heap.size + 1) A n c := by
  refine ⟨(Row.new w 29 [.slice A n c]).keep (heap_alloc_lt _ _ (by simp)), ?_, ((Below.refl _ w).alloc (Nat.le_refl _) _).alloc (by simp) _, by omega⟩
  have h := Row.new (w.alloc (.cells #[.slice A n c] 29)) 29 [.slice none 0 0]
  rw [World.size_alloc] at h
  exact h
theorem SlAt.mono {F' : Nat → Prop} {s : Sl} {L : List Lt} (h : SlAt w F s L) (k : ∀ b, F' b → b < w.heap.size → F b) : SlAt w F' s L := ⟨h.reads, h.le, h.max, fun ad hA => ⟨(h.off ad hA).1, fun hf => (h.off ad hA).2 (k _ hf (h.off ad hA).1)⟩⟩
theorem RAt.mono {F' : Nat → Prop} (h : RAt w F Q A n c) (k : ∀ b, F' b → b < w.heap.size → F b) : RAt w F' Q A n c := by
  obtain ⟨vs, h1, h2, h3⟩ := h.ex
  exact ⟨⟨vs, h1, h2, fun i hi => (h3 i hi).mono k⟩, h.le, h.max, fun ad hA => ⟨(h.off ad hA).1, fun hf => (h.off ad hA).2 (k _ hf (h.off ad hA).1)⟩⟩
/-- What came in, at a later world, apart from what is returned. -/
theorem Fr.rat (h : Fr w w1 X A n c) (hr : RAt w F Q A n c) : RAt w1 (F2 F X) Q A n c :=
  (hr.mono (F' := F2 F X) (fun b hb hl => hb.elim id (fun e => by have := h.lo; omega))).turn (Turn.below _ h.below)
theorem Fr.foot (h : Fr w w1 X A n c) (hF : ∀ b, F b → b < w.heap.size) : ∀ b, F2 F X b → b < w1.heap.size := fun b hb => hb.elim (fun h1 => by have := hF b h1; have := h.box.lt; omega) (fun e => by rw [e]; exact h.res.lt)
/-- What is stored to be returned. -/
theorem Fr.ret (h : Fr w w1 X A n c) (hb : Below w1.heap.size w1 w2) {Q' : Rd} {A' : Option Addr} {n' c' : Nat} (hr : RAt w2 (F2 F X) Q' A' n' c') :
    RAt (w2.setCell ⟨X, 0, none⟩ (.slice A' n' c')) F Q' A' n' c' ∧ Below w.heap.size w (w2.setCell ⟨X, 0, none⟩ (.slice A' n' c')) ∧ (w2.setCell ⟨X, 0, none⟩ (.slice A' n' c')).cell? ⟨X, 0, none⟩ = some (.slice A' n' c') := by
  have h2 := h.on hb
  have T : Turn (F2 F X) w2 (F2 F X) (w2.setCell ⟨X, 0, none⟩ (.slice A' n' c')) := Turn.set (F2 F X) w2 (a := ⟨X, 0, none⟩) (.inr rfl) _
  exact ⟨(hr.turn T).mono (fun b hb _ => .inl hb), below_setCell h2.below (p := ⟨X, 0, none⟩) h.lo _, (h2.res.set 0 _).cell rfl⟩
/-- The slice at a place. -/
theorem RAt.at_ (h : RAt w F Q A n c) {to : Int} (ht : thereQ Q to = true) : ∃ ad s, A = some ad ∧ w.cell? (ad.add (spot to)) = some (sc s) ∧ (ad.add (spot to)).block < w.heap.size ∧ SlAt w F s (haveQ Q to) ∧ s.2.1 = (haveQ Q to).length := by
  obtain ⟨vs, h1, h2, h3⟩ := h.ex
  obtain ⟨hk, _⟩ := spot_lt ht
  have hn := h.len
  obtain ⟨ad, rfl, hb, hc⟩ := h2.2 (by omega)
  have hs := h3 _ hk
  refine ⟨ad, vs.getD (spot to) nilS, rfl, hc _ _ ?_, by rw [block_of_add]; exact hb, hs, hs.len⟩
  rw [List.getElem?_map, List.getElem?_eq_getElem (by omega), List.getD_eq_getElem?_getD, List.getElem?_eq_getElem (by omega)]
  rfl
theorem there_any (Q : Rd) (to : Int) (w : World) (A : Option Addr) (n c : Nat) (hn : n = Q.length) (hm : n ≤ 1000) :
    Calls Try.prog 29 #[.agg #[.slice A n c], .int .i64 to] w (Gives (.bool (thereQ Q to)) w) := by
  obtain ⟨W, hW⟩ : ∃ W, W = w.alloc (.cells #[.slice A n c] 29) := ⟨_, rfl⟩
  have hb0 : Below w.heap.size w W := by rw [hW]; exact (Below.refl _ w).alloc (Nat.le_refl _) _
  have hq : thereQ Q to = decide (-1 ≤ to ∧ to < (n : Int) - 1) := by unfold thereQ; rw [hn]
  rw [hq]
  have HW := Lib.hid (And.intro hW hb0)
  have hw1 : IntKind.i64.wrap ((n : Int) - 1) = (n : Int) - 1 := by rw [IntKind.wrap_i64]; omega
  clear hW hb0 hq hn
  by_cases h1 : -1 ≤ to
  · by_cases h2 : to < (n : Int) - 1
    · have hd : decide (-1 ≤ to ∧ to < (n : Int) - 1) = true := decide_eq_true ⟨h1, h2⟩
      rw [hd]
      clear hd
      go_enter Try.func29, Try.ntmps29
      go_wp2
      rw [← HW.out.1]
      go_ret
      exact ⟨rfl, HW.out.2⟩
    · have hd : decide (-1 ≤ to ∧ to < (n : Int) - 1) = false := decide_eq_false (fun h => h2 h.2)
      rw [hd]
      clear hd
      go_enter Try.func29, Try.ntmps29
      go_wp2
      rw [← HW.out.1]
      go_ret
      exact ⟨rfl, HW.out.2⟩
  · have hd : decide (-1 ≤ to ∧ to < (n : Int) - 1) = false := decide_eq_false (fun h => h1 h.1)
    rw [hd]
    clear hd
    go_enter Try.func29, Try.ntmps29
    go_wp2
    rw [← HW.out.1]
    go_ret
    exact ⟨rfl, HW.out.2⟩
theorem waits_any (Q : Rd) (to : Int) {w : World} (h : RAt w F Q A n c) (hQ : Q.length ≤ 100) :
    Calls Try.prog 25 #[.agg #[.slice A n c], .int .i64 to] w (Gives (.int .i64 (waitsQ Q to)) w) := by
  obtain ⟨W, hW⟩ : ∃ W, W = w.alloc (.cells #[.slice A n c] 29) := ⟨_, rfl⟩
  have hb0 : Below w.heap.size w W := by rw [hW]; exact (Below.refl _ w).alloc (Nat.le_refl _) _
  have hlen := h.len
  have r1 : Row W w.heap.size 29 [.slice A n c] := by rw [hW]; exact Row.new w _ _
  have HT := there_any Q to W A n c hlen (by omega)
  have HX := Lib.hid (fun w1 (hb : Below W.heap.size W w1) => show w1.cell? ⟨w.heap.size, 0, none⟩ = some (.slice A n c) ∧ w.heap.size < w1.heap.size ∧ Below w.heap.size w w1 from
    ⟨(r1.keep (hb.block _ r1.lt)).cell rfl, (r1.keep (hb.block _ r1.lt)).lt, hb0.trans (hb.mono hb0.size)⟩)
  have HW := Lib.hid hW
  unfold waitsQ
  cases ht : thereQ Q to with
  | false =>
    rw [ht] at HT
    rw [if_pos rfl]
    have HT := Lib.hid HT
    clear hW hb0 hlen r1 h ht
    go_enter Try.func25, Try.ntmps25
    go_wp2_with fail
    rw [← HW.out]
    with_reducible refine HT.out.mono ?_
    rintro e w1 ⟨rfl, hb1⟩
    have HF := Lib.hid (HX.out w1 hb1).2.2
    clear hb1
    go_wp2
    go_ret
    exact ⟨rfl, HF.out⟩
  | true =>
    rw [ht] at HT
    rw [if_neg (by simp)]
    have HT := Lib.hid HT
    obtain ⟨ad, s, rfl, hc, hbk, hs, hsl⟩ := h.at_ ht
    obtain ⟨hk, hkz⟩ := spot_lt ht
    obtain ⟨k, hke⟩ : ∃ k, spot to = k := ⟨_, rfl⟩
    rw [hke] at hc hbk hkz hk
    obtain ⟨sa, sn, sd⟩ := s
    simp only at hsl
    rw [← hsl]
    have HC := Lib.hid (fun w1 (hb : Below w.heap.size w w1) => show w1.cell? (ad.add k) = some (.slice sa sn sd) ∧ (ad.add k).block < w1.heap.size from ⟨(hb.cell hbk).trans hc, Nat.lt_of_lt_of_le hbk hb.size⟩)
    have hw1 : IntKind.i64.wrap (to + 1) = (k : Int) := by rw [IntKind.wrap_i64]; omega
    have hkn : (k : Int) < (n : Int) := by omega
    clear hW hb0 hlen r1 h ht hs hsl hc hbk hk hkz hke
    go_enter Try.func25, Try.ntmps25
    go_wp2_with fail
    rw [← HW.out]
    with_reducible refine HT.out.mono ?_
    rintro e w1 ⟨rfl, hb1⟩
    obtain ⟨x0, xl, hbw⟩ := HX.out w1 hb1
    obtain ⟨hc, hbk⟩ := HC.out w1 hbw
    have HF := Lib.hid hbw
    clear hb1 hbw
    go_wp2
    go_ret
    exact ⟨rfl, HF.out⟩
end
def REPost (F : Nat → Prop) (Q : Rd) (er : Int) (w : World) (e : Ending) (w' : World) : Prop := ∃ A n c, e = .returned (.tuple #[.agg #[.slice A n c], .int .i64 er]) ∧ RAt w' F Q A n c ∧ Below w.heap.size w w'
end Go.Proofs.Ytikbgaomiliefaa.Ro
