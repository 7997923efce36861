/- What the writer's fits and number do: bytes are appended. Conditions: the writer's block is a writer; Go's table of powers of ten lies as start-up lays it. -/
import Derived.Test.YtoakhndbjggboaaDoorBenA
set_option linter.unusedVariables false
set_option linter.unusedSimpArgs false
namespace Go.Proofs.YtoakhndbjggboaaDoor
open Go Go.RowKit
/-- A block that is a writer: its bytes lie in a row of the call's own. -/
structure WrAt (w : World) (Wb B : Nat) (v : Value) (bs : List UInt8) : Prop where
  blk : w.heap[Wb]? = some (.cells #[v] 91 (0, 0))
  own : w.ownsRow B 5 1 v bs.length (Lib.byteCells bs)
  lt : Wb < B
  le : B ≤ w.heap.size
theorem WrAt.cell {w : World} {Wb B : Nat} {v : Value} {bs : List UInt8} (h : WrAt w Wb B v bs) : w.cell? ⟨Wb, 0, none⟩ = some v ∧ w.frozen? ⟨Wb, 0, none⟩ = false ∧ Wb < w.heap.size := by
  have := h.blk
  refine ⟨by simp [World.cell?, this], by simp [World.frozen?, this], (Array.getElem?_eq_some_iff.1 this).1⟩
theorem WrAt.drewN {w : World} {Wb B : Nat} {v : Value} {bs : List UInt8} (h : WrAt w Wb B v bs) (q : Nat) : WrAt (w.drewN q) Wb B v bs := ⟨h.blk, h.own, h.lt, h.le⟩
theorem WrAt.below {w w' : World} {Wb B : Nat} {v : Value} {bs : List UInt8} (h : WrAt w Wb B v bs) (hb : Below w.heap.size w w') : WrAt w' Wb B v bs :=
  ⟨(hb.block _ h.cell.2.2).trans h.blk, h.own.kept (grown_below hb none) (by
    cases hx : v.ownBlock with
    | none => exact .inl rfl
    | some g => exact .inr (by simp)), h.lt, Nat.le_trans h.le hb.size⟩
/-- Where the row has grown, the writer's block is as it was. -/
theorem WrAt.grown {w w1 : World} {Wb B : Nat} {v : Value} {bs : List UInt8} (h : WrAt w Wb B v bs) (hg : w.grownBy w1 v.ownBlock) : w1.heap[Wb]? = some (.cells #[v] 91 (0, 0)) := by
  rw [hg.block Wb h.cell.2.2 (fun e => by have := (h.own.lt _ e.symm).1; have := h.lt; omega)]
  exact h.blk
theorem blk_cell {w : World} {Wb : Nat} {v : Value} (h : w.heap[Wb]? = some (.cells #[v] 91 (0, 0))) : w.cell? ⟨Wb, 0, none⟩ = some v ∧ w.frozen? ⟨Wb, 0, none⟩ = false ∧ Wb < w.heap.size :=
  ⟨by simp [World.cell?, h], by simp [World.frozen?, h], (Array.getElem?_eq_some_iff.1 h).1⟩
/-- .. and the new row is put into it. -/
theorem wr_put {w1 : World} {Wb B : Nat} {v v1 : Value} {bs : List UInt8} (hblk : w1.heap[Wb]? = some (.cells #[v] 91 (0, 0))) (hown : w1.ownsRow B 5 1 v1 bs.length (Lib.byteCells bs)) (hlt : Wb < B) (hle : B ≤ w1.heap.size) : WrAt (w1.setCell ⟨Wb, 0, none⟩ v1) Wb B v1 bs := by
  refine ⟨?_, ownsRow_setCell_below hown (a := ⟨Wb, 0, none⟩) hlt v1, hlt, by simpa using hle⟩
  simp only [World.setCell, Array.getElem?_modify, hblk]
  simp
def Tabs (w : World) (Wb : Nat) : Prop := Lib.TabBelow Tryd.prog Wb w "internal/strconv.uint64pow10" .u64 Lib.pow10Tab
theorem Tabs.on {w w1 : World} {Wb : Nat} (h : Tabs w Wb) (hb : Below Wb w w1) : Tabs w1 Wb := Lib.TabBelow.on h hb
theorem Tabs.up {w : World} {Wb B : Nat} (h : Tabs w Wb) (hB : Wb ≤ B) : Tabs w B := fun w' hb => h w' (hb.mono hB)
theorem fits_any (Wb B : Nat) (v : Value) (bs : List UInt8) (w : World) (h : WrAt w Wb B v bs) : Calls Tryd.prog 66 #[.pointer (some ⟨Wb, 0, none⟩)] w fun e w' => e = .returned (.bool (decide (bs.length ≤ 65536))) ∧ w = w' := by
  obtain ⟨hc, hf, hz⟩ := h.cell
  obtain ⟨A, c, rfl, _⟩ := own_shape h.own
  generalize bs.length = n at *
  go_enter Tryd.func66, Tryd.ntmps66
  go_wp2
  go_ret
  exact ⟨ret_bool (by simp; try omega), rfl⟩
/-- The bytes so far, and more. -/
def WrPost (Wb B : Nat) (bs : List UInt8) (v : Value) (w : World) (e : Ending) (w' : World) : Prop := e = .returned v ∧ (∃ u, WrAt w' Wb B u bs) ∧ Below Wb w w'
theorem append_i64 (Wb B : Nat) (v : Value) (bs : List UInt8) (n : Int) (h0 : -9223372036854775808 ≤ n) (h1 : n ≤ 9223372036854775807) (hl : bs.length ≤ 1000000) (w : World) (h : WrAt w Wb B v bs) (hT : Tabs w Wb) :
    Calls Tryd.prog 71 #[v, .int .i64 n, .int .i64 10] w fun e w' => ∃ v', e = .returned v' ∧ w'.heap[Wb]? = some (.cells #[v] 91 (0, 0)) ∧ w'.ownsRow B 5 1 v' (bs ++ Lib.itoa n).length (Lib.byteCells (bs ++ Lib.itoa n)) ∧ B ≤ w'.heap.size ∧ Below B w w' := by
  refine (Tryd.strconv_AppendInt_10 B bs.length n h0 h1 v (Lib.byteCells bs) w h.own h.le (by omega) (hT.up (Nat.le_of_lt h.lt))).mono ?_
  rintro e w' ⟨v', he, hown, hb, hk⟩
  refine ⟨v', he, (hb.block Wb h.lt).trans h.blk, ?_, Nat.le_trans h.le hb.size, hb⟩
  rw [List.length_append, Lib.byteCells_append]
  exact hown
set_option maxRecDepth 100000 in
set_option maxHeartbeats 8000000 in
theorem wnumber_any (Wb B : Nat) (v : Value) (bs : List UInt8) (n : Int) (h0 : -9223372036854775808 ≤ n) (h1 : n ≤ 9223372036854775807) (hl : bs.length ≤ 900000) (w : World) (h : WrAt w Wb B v bs) (hT : Tabs w Wb) :
    Calls Tryd.prog 63 #[.pointer (some ⟨Wb, 0, none⟩), .int .i64 n] w (WrPost Wb B (bs ++ 105 :: (Lib.itoa n ++ [101])) (.tuple #[]) w) := by
  obtain ⟨hc, hf, hz⟩ := h.cell
  have hBs := h.le
  have hlt := h.lt
  go_enter Tryd.func63, Tryd.ntmps63
  go_wp2_with (at_builtin; refine append_byte rfl (.tmp 8) (.tmp 9) rfl B v bs.length _ _ rfl rfl h.own rfl (by omega) hBs ?_; intro v1 w1 hown1 hgr1 hob1; obtain ⟨A1, c1, rfl, _⟩ := own_shape hown1; have hb1 := h.grown hgr1; obtain ⟨k0, k1, k2⟩ := blk_cell hb1)
  have hB1 : B ≤ w1.heap.size := Nat.le_trans hBs hgr1.size
  have hw2 := wr_put hb1 (own_byte 105 rfl hown1) hlt hB1
  have hbel2 : Below Wb w (w1.setCell ⟨Wb, 0, none⟩ (.slice A1 (bs.length + 1) c1)) := ((Below.refl Wb w).grown hgr1 (by omega) (fun k hk => by have := (h.own.lt _ hk).1; omega)).setCell (Nat.le_refl _) _
  generalize w1.setCell ⟨Wb, 0, none⟩ (.slice A1 (bs.length + 1) c1) = w2 at hw2 hbel2
  clear k0 k1 k2
  refine (append_i64 Wb B _ (bs ++ [105]) n h0 h1 (by simp; omega) w2 hw2 (hT.on hbel2)).mono ?_
  rintro e w3 ⟨v3, rfl, hb3, hown3, hB3, hbe3⟩
  obtain ⟨A3, c3, rfl, _⟩ := own_shape hown3
  obtain ⟨k0, k1, k2⟩ := blk_cell hb3
  have hw4 := wr_put hb3 hown3 hlt hB3
  have hbel4 : Below Wb w (w3.setCell ⟨Wb, 0, none⟩ (.slice A3 (bs ++ [105] ++ Lib.itoa n).length c3)) := (hbel2.trans (hbe3.mono (by omega))).setCell (Nat.le_refl _) _
  have hil := itoa_len n h0 h1
  have hown4 := hw4.own
  have hgr4 := fun w5 => hw4.grown (w1 := w5)
  have hLb : (bs ++ [105] ++ Lib.itoa n).length ≤ 1000000 := by simp; omega
  generalize hbs' : bs ++ [105] ++ Lib.itoa n = bs' at *
  have HBS := Lib.hid hbs'
  clear hbs'
  go_wp2_with (at_builtin; refine append_byte_at rfl (.tmp 26) (.tmp 27) rfl B _ bs'.length _ _ rfl rfl hown4 w3.heap.size (by simp) rfl (by omega) (by simp; omega) ?_; intro v5 w5 hown5 hgr5 hob5; obtain ⟨A5, c5, rfl, _⟩ := own_shape hown5; have hb5 := hgr4 _ hgr5; obtain ⟨k3, k4, k5⟩ := blk_cell hb5)
  have hB5 : B ≤ w5.heap.size := by have := hgr5.size; have := hw4.le; omega
  have hw6 := wr_put hb5 (own_byte 101 rfl hown5) hlt hB5
  have hbel6 : Below Wb w (w5.setCell ⟨Wb, 0, none⟩ (.slice A5 (bs'.length + 1) c5)) := (hbel4.grown hgr5 (by have := hw4.le; omega) (fun k hk => by have := (hown4.lt _ hk).1; omega)).setCell (Nat.le_refl _) _
  go_end0
  have e : bs ++ 105 :: (Lib.itoa n ++ [101]) = bs' ++ [101] := by rw [← HBS.out]; simp
  rw [← e] at hw6
  exact ⟨rfl, ⟨_, hw6⟩, hbel6⟩
end Go.Proofs.YtoakhndbjggboaaDoor
