/- Kit, Hex, FRHex in one text. Conditions: as each part says. -/
import Derived.Test.YtcbkgcnajplagaaDoorJ15
import Derived.Test.YtcbkgcnajplagaaDoorJ02
import Derived.WalkKit
import Derived.WalkLawsBesides
import Derived.WalkSpells
import Derived.RegionTactic
import Derived.Below
import Derived.Laws.OwnMore
import Derived.Deep.AppendLies
import Derived.Deep.Draws
import Derived.OwnWalk
import Derived.Lib.OthersKept
import Derived.Maps.AppendAt
import Derived.BigQuiet
import Derived.Deep.QuietTactic
import Derived.LoopTactic
import Derived.Lib.LaidTab
import Derived.Lib.Hide
import Derived.Laws.IdiomStrings
import Derived.Laws.BitsAllLaws
import Derived.Laws.MakeOwn
section
set_option linter.unusedVariables false
set_option linter.unusedSimpArgs false
namespace Go.Proofs.YtcbkgcnajplagaaDoor
open Go Go.RowKit

/-- The block g holds the bytes l, and may be written there. -/
def RowB (w : World) (g : Nat) (l : List UInt8) : Prop := ∃ (C : Array Value) (T lo hi : Nat), w.heap[g]? = some (.cells C T (lo, hi)) ∧ (l.length ≤ lo ∨ hi = 0) ∧ ∀ j (hj : j < l.length), C[j]? = some (.int .u8 (l[j].toNat : Int))
section
variable {w : World} {g : Nat} {l : List UInt8}
theorem RowB.lt (h : RowB w g l) : g < w.heap.size := by
  obtain ⟨C, T, lo, hi, hh, _⟩ := h
  exact (Array.getElem?_eq_some_iff.1 hh).1
theorem RowB.cell (h : RowB w g l) {j : Nat} (hj : j < l.length) : w.cell? ⟨g, j, none⟩ = some (.int .u8 (l[j].toNat : Int)) := by
  obtain ⟨C, T, lo, hi, hh, _, hc⟩ := h
  simp only [World.cell?, hh]
  exact hc j hj
theorem RowB.frozen (h : RowB w g l) {j : Nat} (hj : j < l.length) : w.frozen? ⟨g, j, none⟩ = false := by
  obtain ⟨C, T, lo, hi, hh, hlo, hc⟩ := h
  simp only [World.frozen?, hh]
  rcases hlo with hlo | rfl
  · simp; omega
  · simp
theorem RowB.drewN (h : RowB w g l) (n : Nat) : RowB (w.drewN n) g l := h
theorem RowB.set (h : RowB w g l) {j : Nat} (hj : j < l.length) (b : UInt8) : RowB (w.setCell ⟨g, j, none⟩ (.int .u8 (b.toNat : Int))) g (l.set j b) := by
  obtain ⟨C, T, lo, hi, hh, hlo, hc⟩ := h
  refine ⟨C.setIfInBounds j (.int .u8 (b.toNat : Int)), T, lo, hi, ?_, by simpa using hlo, fun i hi' => ?_⟩
  · simp only [World.setCell, Array.getElem?_modify, hh]
    simp
  · have hi2 : i < l.length := by simpa using hi'
    have hCj := hc j hj
    have hjC : j < C.size := (Array.getElem?_eq_some_iff.1 hCj).1
    rw [Array.getElem?_setIfInBounds]
    by_cases hji : j = i
    · subst hji
      rw [if_pos rfl, if_pos hjC]
      simp
    · rw [if_neg hji, hc i hi2]
      simp [List.getElem_set, hji]
theorem RowB.conv (h : RowB w g l) (cap : Nat) (src dst : TypeId) (hs : Tryd.prog.underlying src = some (.slice 5)) (hd : Tryd.prog.underlying dst = some .string) : (convert src dst (.slice (some ⟨g, 0, none⟩) l.length cap)).run Tryd.prog w = .ok (.string ⟨l.toArray⟩) w :=
  run_convert_bytes_back w src dst 5 ⟨g, 0, none⟩ cap l hs Tryd.underlying5 hd (fun j hj => by
    rw [show (⟨g, 0, none⟩ : Addr).add j = ⟨g, j, none⟩ by unfold Addr.add; split <;> simp_all]
    exact h.cell hj)
end
theorem RowB.new (w : World) (C : Array Value) (T lo hi : Nat) (l : List UInt8) (hlo : l.length ≤ lo ∨ hi = 0) (hc : ∀ j (hj : j < l.length), C[j]? = some (.int .u8 (l[j].toNat : Int))) : RowB (w.alloc (.cells C T (lo, hi))) w.heap.size l :=
  ⟨C, T, lo, hi, by show (w.heap.push _)[w.heap.size]? = _; simp, hlo, hc⟩
theorem byte_row : (Tryd.prog.info? 5).map (fun i => (i.zero, i.size, i.bytes)) = some (some (.int .u8 0), 1, 1) := by kernel_rfl
theorem append_byte {ops : Array Oper} {rest : List Oper} {o : Oper} {a : Act} {Q : Exit → Act → World → Prop} {W : World} (hgd : o.guard = none) (s x : Operand)
    (ho : o.op = .call { callee := .builtin .append, args := #[s, x], argTypes := #[40, 40] })
    (base : Nat) (v : Value) (n : Nat) (xs : List Value) (y : Value) (hy : y.oneCell' = true) (hs : a.eval s = v) (hown : W.ownsRow base 5 1 v n xs) (hx : a.eval x = .slice (some ⟨W.heap.size, 0, none⟩) 1 1)
    (hn : n ≤ 1000000000) (hbase : base ≤ W.heap.size)
    (h : ∀ v' w', w'.ownsRow base 5 1 v' (n + 1) (xs ++ [y]) → W.grownBy w' v.ownBlock → (v'.ownBlock = v.ownBlock ∨ ∀ k, v'.ownBlock = some k → W.heap.size ≤ k) → wpList Tryd.prog ops Q rest (a.put o.dst v') w') :
    wpList Tryd.prog ops Q (o :: rest) a (W.alloc (.cells #[y] 5)) := by
  obtain ⟨i0, hi, hz0, hz1, hz2⟩ := info_parts byte_row
  exact append_new hgd s x 40 5 5 ho base i0 (.int .u8 0) 1 1 Tryd.underlying40 hi hz0 hz1 hz2 rfl (by decide) (by decide) v n xs hs hown hx #[y] rfl (by intro u hu; simp at hu; subst hu; exact hy) hn hbase h
theorem append_byte_at {ops : Array Oper} {rest : List Oper} {o : Oper} {a : Act} {Q : Exit → Act → World → Prop} {W : World} (hgd : o.guard = none) (s x : Operand)
    (ho : o.op = .call { callee := .builtin .append, args := #[s, x], argTypes := #[40, 40] })
    (base : Nat) (v : Value) (n : Nat) (xs : List Value) (y : Value) (hy : y.oneCell' = true) (hs : a.eval s = v) (hown : W.ownsRow base 5 1 v n xs) (N : Nat) (hN : N = W.heap.size) (hx : a.eval x = .slice (some ⟨N, 0, none⟩) 1 1)
    (hn : n ≤ 1000000000) (hbase : base ≤ W.heap.size)
    (h : ∀ v' w', w'.ownsRow base 5 1 v' (n + 1) (xs ++ [y]) → W.grownBy w' v.ownBlock → (v'.ownBlock = v.ownBlock ∨ ∀ k, v'.ownBlock = some k → W.heap.size ≤ k) → wpList Tryd.prog ops Q rest (a.put o.dst v') w') :
    wpList Tryd.prog ops Q (o :: rest) a (W.alloc (.cells #[y] 5)) := by
  subst hN
  exact append_byte hgd s x ho base v n xs y hy hs hown hx hn hbase h
theorem own_byte {w : World} {B : Nat} {v : Value} {bs : List UInt8} {z : Int} (c : UInt8) (hz : z = (c.toNat : Int)) (h : w.ownsRow B 5 1 v (bs.length + 1) (Lib.byteCells bs ++ [.int .u8 z])) : w.ownsRow B 5 1 v (bs ++ [c]).length (Lib.byteCells (bs ++ [c])) := by
  subst hz
  rw [List.length_append, Lib.byteCells_append]
  exact h
theorem conv_row {w : World} {B : Nat} {v : Value} {bs : List UInt8} (hown : w.ownsRow B 5 1 v bs.length (Lib.byteCells bs)) (hne : 0 < bs.length) : ∀ src dst, Tryd.prog.underlying src = some (.slice 5) → Tryd.prog.underlying dst = some .string → (convert src dst v).run Tryd.prog w = .ok (.string ⟨bs.toArray⟩) w := by
  intro src dst hs hd
  obtain ⟨g, cap, rfl, _, _⟩ := hown.form hne
  rw [run_convert_bytes_string (P := Tryd.prog) w src dst 5 _ _ _ hs Tryd.underlying5 hd]
  have hc := hown.cells (g := g) rfl
  have hmap : Lib.byteCells bs = (bs.map fun b => (b.toNat : Int)).map (Value.int .u8) := by simp [Lib.byteCells]
  have hl := run_loadCells_list (P := Tryd.prog) (w := w) ⟨g, 0, none⟩ (Lib.byteCells bs) hc
  rw [Lib.byteCells_length] at hl
  rw [run_bytesToString (P := Tryd.prog) w ⟨g, 0, none⟩ bs.length cap (bs.map fun b => (b.toNat : Int)) (by rw [hl, hmap])]
  rw [foldl_push_byteCells, show ByteArray.empty.data = #[] from rfl, Array.empty_append]

theorem i64_or_nat (a b : Nat) (ha : a < 9223372036854775808) (hb : b < 9223372036854775808) : bits .or .i64 (a : Int) (b : Int) = ((a ||| b : Nat) : Int) := by
  show IntKind.i64.wrap ((BitVec.ofInt 64 (a : Int) ||| BitVec.ofInt 64 (b : Int)).toNat : Nat) = _
  rw [BitVec.toNat_or, ofInt_nat64 a ha, ofInt_nat64 b hb, IntKind.wrap_i64]
  have := Nat.or_lt_two_pow (n := 63) ha hb
  omega
theorem i64_and4 (n : Int) : bits .and .i64 n 15 = n % 16 := by
  have hm : (BitVec.ofInt 64 15).toNat = 2 ^ 4 - 1 := by decide
  have key : (BitVec.ofInt 64 n &&& BitVec.ofInt 64 15).toNat = (n % ((2 ^ 64 : Nat) : Int)).toNat % 2 ^ 4 := by
    rw [BitVec.toNat_and, BitVec.toNat_ofInt, hm, Nat.and_two_pow_sub_one_eq_mod]
  show IntKind.i64.wrap ((BitVec.ofInt 64 n &&& BitVec.ofInt 64 15).toNat : Nat) = n % 16
  rw [key, IntKind.wrap_i64]
  omega
end Go.Proofs.YtcbkgcnajplagaaDoor
end
section
set_option linter.unusedVariables false
set_option linter.unusedSimpArgs false
namespace Go.Proofs.YtcbkgcnajplagaaDoor
open Go Go.RowKit

def hexD (k : Nat) : UInt8 := UInt8.ofNat (if k < 10 then 48 + k else 87 + k)
def DIG : ByteArray := ⟨#[48, 49, 50, 51, 52, 53, 54, 55, 56, 57, 97, 98, 99, 100, 101, 102]⟩
theorem dig_fin : ∀ k : Fin 16, DIG.data.toList.getD k.val 0 = hexD k.val := by decide +kernel
theorem dig_at (k : Nat) (h : k < 16) (h2 : k < DIG.size) : DIG[k]'h2 = hexD k := by
  rw [← dig_fin ⟨k, h⟩]
  rw [List.getD_eq_getElem?_getD, List.getElem?_eq_getElem (by simpa using h2)]
  rfl
/-- The six digits. -/
def hexL (N : Nat) : List UInt8 := [hexD (N / 16 ^ 5 % 16), hexD (N / 16 ^ 4 % 16), hexD (N / 16 ^ 3 % 16), hexD (N / 16 ^ 2 % 16), hexD (N / 16 ^ 1 % 16), hexD (N / 16 ^ 0 % 16)]
/-- The row behind so many rounds. -/
def hrow (N : Nat) : Nat → List UInt8
  | 0 => [0, 0, 0, 0, 0, 0]
  | 1 => [0, 0, 0, 0, 0, hexD (N / 16 ^ 0 % 16)]
  | 2 => [0, 0, 0, 0, hexD (N / 16 ^ 1 % 16), hexD (N / 16 ^ 0 % 16)]
  | 3 => [0, 0, 0, hexD (N / 16 ^ 2 % 16), hexD (N / 16 ^ 1 % 16), hexD (N / 16 ^ 0 % 16)]
  | 4 => [0, 0, hexD (N / 16 ^ 3 % 16), hexD (N / 16 ^ 2 % 16), hexD (N / 16 ^ 1 % 16), hexD (N / 16 ^ 0 % 16)]
  | 5 => [0, hexD (N / 16 ^ 4 % 16), hexD (N / 16 ^ 3 % 16), hexD (N / 16 ^ 2 % 16), hexD (N / 16 ^ 1 % 16), hexD (N / 16 ^ 0 % 16)]
  | _ => hexL N
theorem hrow_len (N : Nat) (j : Nat) (h : j ≤ 6) : (hrow N j).length = 6 := by
  rcases (show j = 0 ∨ j = 1 ∨ j = 2 ∨ j = 3 ∨ j = 4 ∨ j = 5 ∨ j = 6 by omega) with rfl | rfl | rfl | rfl | rfl | rfl | rfl <;> rfl
theorem hrow_set (N : Nat) (j : Nat) (h : j < 6) : (hrow N j).set (5 - j) (hexD (N / 16 ^ j % 16)) = hrow N (j + 1) := by
  rcases (show j = 0 ∨ j = 1 ∨ j = 2 ∨ j = 3 ∨ j = 4 ∨ j = 5 by omega) with rfl | rfl | rfl | rfl | rfl | rfl <;> rfl
set_option maxHeartbeats 4000000 in
set_option maxRecDepth 100000 in
theorem hex_ok (N : Nat) (hN : N < 16777216) (w : World) : Calls Tryd.prog 39 #[.int .i64 (N : Int)] w fun e w' => e = .returned (.tuple #[.string ⟨(hexL N).toArray⟩, .int .i64 0]) ∧ Below w.heap.size w w' := by
  have h1 : ¬ (N : Int) < 0 := by omega
  have h2 : ¬ (16777215 : Int) < (N : Int) := by omega
  have hr0 : RowB (w.alloc (.cells #[.int .u8 0, .int .u8 0, .int .u8 0, .int .u8 0, .int .u8 0, .int .u8 0] 96)) w.heap.size (hrow N 0) :=
    RowB.new w _ 96 0 0 _ (.inr rfl) (fun j hj => by
      have hj2 : j < 6 := hj
      rcases (show j = 0 ∨ j = 1 ∨ j = 2 ∨ j = 3 ∨ j = 4 ∨ j = 5 by omega) with rfl | rfl | rfl | rfl | rfl | rfl <;> rfl)
  have hb0 : Below w.heap.size w (w.alloc (.cells #[.int .u8 0, .int .u8 0, .int .u8 0, .int .u8 0, .int .u8 0, .int .u8 0] 96)) := (Below.refl _ w).alloc (Nat.le_refl _) _
  have HR0 := Lib.hid hr0
  have HB0 := Lib.hid hb0
  clear hr0 hb0
  go_enter Tryd.func39, Tryd.ntmps39
  go_wp2_with fail
  generalize w.alloc (.cells #[.int .u8 0, .int .u8 0, .int .u8 0, .int .u8 0, .int .u8 0, .int .u8 0] 96) = W0 at *
  generalize hg : w.heap.size = g at *
  have HG := Lib.hid hg
  clear hg
  go_loopw [0, 12] (fun n i wr => ∃ j M : Nat, j ≤ 6 ∧ i = .int .i64 (j : Int) ∧ n = .int .i64 (M : Int) ∧ Hid (M = N / 16 ^ j) ∧ M < 16777216 ∧ RowB wr g (hrow N j) ∧ Below g w wr) (fun _ i _ => 6 - (intOf i).toNat)
  case atStart => exact ⟨0, N, by omega, rfl, rfl, Lib.hid (by simp), hN, HR0.out, HB0.out⟩
  case round =>
    obtain ⟨j, M, hj, rfl, rfl, HM, hM, hr, hb⟩ := hrel
    by_cases hj6 : j < 6
    · have hjz : (j : Int) < 6 := by omega
      have hln := hrow_len N j hj
      obtain ⟨d, hd⟩ : ∃ d : Nat, d = 5 - j := ⟨_, rfl⟩
      have hdz : 5 - (j : Int) = (d : Int) := by omega
      have hd6 : (d : Int) < 6 := by omega
      have hfz : wr.frozen? ⟨g, d, none⟩ = false := hr.frozen (by omega)
      obtain ⟨c0, hc⟩ : ∃ c0 : Int, wr.cell? ⟨g, d, none⟩ = some (.int .u8 c0) := ⟨_, hr.cell (by omega)⟩
      obtain ⟨q, hq⟩ : ∃ q : Nat, q = M % 16 := ⟨_, rfl⟩
      have hq16 : q < 16 := by omega
      have hand : bits .and .i64 (M : Int) 15 = (q : Int) := by rw [i64_and4]; omega
      have hst := hr.set (j := d) (by omega) (hexD (N / 16 ^ j % 16))
      rw [hd, hrow_set N j hj6, ← hd] at hst
      have hdv := dig_at q hq16 hq16
      have hqn : Hid (N / 16 ^ j % 16 = q) := Lib.hid (by rw [← HM.out]; exact hq.symm)
      have HST := Lib.hid hst
      have HDV := Lib.hid hdv
      have hlt := hr.lt
      clear hst hdv hq hd
      unfold DIG at HDV
      go_wp2_with fail
      have hrow2 := HST.out
      rw [hqn.out] at hrow2
      refine ⟨⟨j + 1, M / 16, by omega, by go_num, by go_num, Lib.hid (by rw [HM.out, Nat.div_div_eq_div_mul, Nat.pow_succ]), by omega, ?_, below_setCell hb (p := ⟨g, d, none⟩) (Nat.le_refl _) _⟩, by simp [intOf]; omega⟩
      rw [HDV.out]
      exact hrow2
    · obtain rfl : j = 6 := by omega
      have hnl : ¬ ((6 : Nat) : Int) < 6 := by omega
      have hcv := hr.conv 6 40 9 Tryd.underlying40 Tryd.underlying9
      rw [hrow_len N 6 (by omega)] at hcv
      go_wp2_with fail
      go_ret2
      exact ⟨rfl, HG.out ▸ hb⟩
theorem hex_no (n : Int) (h : n < 0 ∨ 16777216 ≤ n) (w : World) : Calls Tryd.prog 39 #[.int .i64 n] w fun e w' => e = .returned (.tuple #[.string ⟨#[]⟩, .int .i64 1]) ∧ w = w' := by
  by_cases h1 : n < 0
  · go_enter Tryd.func39, Tryd.ntmps39
    go_wp2_with fail
    go_ret2
    exact ⟨rfl, rfl⟩
  · have h2 : 16777215 < n := by omega
    go_enter Tryd.func39, Tryd.ntmps39
    go_wp2_with fail
    go_ret2
    exact ⟨rfl, rfl⟩
theorem hex_take (N j : Nat) (h : j < 6) : (hexL N).take (j + 1) = (hexL N).take j ++ [hexD (N / 16 ^ (5 - j) % 16)] := by
  rcases (show j = 0 ∨ j = 1 ∨ j = 2 ∨ j = 3 ∨ j = 4 ∨ j = 5 by omega) with rfl | rfl | rfl | rfl | rfl | rfl <;> rfl
theorem own_digit {w : World} {B : Nat} {v : Value} {N j : Nat} {z : Int} (hj : j < 6) (hz : z = ((hexD (N / 16 ^ (5 - j) % 16)).toNat : Int)) (h : w.ownsRow B 5 1 v (j + 1) (Lib.byteCells ((hexL N).take j) ++ [.int .u8 z])) : w.ownsRow B 5 1 v (j + 1) (Lib.byteCells ((hexL N).take (j + 1))) := by
  subst hz
  rw [hex_take N j hj, Lib.byteCells_append]
  exact h
end Go.Proofs.YtcbkgcnajplagaaDoor
end
section
set_option linter.unusedVariables false
set_option linter.unusedSimpArgs false
namespace Go.Proofs.YtcbkgcnajplagaaDoor
open Go Go.RowKit
theorem rhex_no (n : Int) (h : n < 0 ∨ 16777216 ≤ n) (w : World) : Calls Tryd.prog 45 #[.int .i64 n] w fun e w' => e = .returned (.tuple #[.string ⟨#[]⟩, .int .i64 1]) ∧ w = w' := by
  by_cases h1 : n < 0
  · go_enter Tryd.func45, Tryd.ntmps45
    go_wp2_with fail
    go_ret2
    exact ⟨rfl, rfl⟩
  · have h2 : 16777216 ≤ n := by omega
    go_enter Tryd.func45, Tryd.ntmps45
    go_wp2_with fail
    go_ret2
    exact ⟨rfl, rfl⟩
set_option maxHeartbeats 8000000 in
set_option maxRecDepth 100000 in
theorem rhex_ok (N : Nat) (hN : N < 16777216) (w : World) : Calls Tryd.prog 45 #[.int .i64 (N : Int)] w fun e w' => e = .returned (.tuple #[.string ⟨(hexL N).toArray⟩, .int .i64 0]) ∧ Below w.heap.size w w' := by
  have h1 : ¬ (N : Int) < 0 := by omega
  have h2 : ¬ (16777216 : Int) ≤ (N : Int) := by omega
  go_enter Tryd.func45, Tryd.ntmps45
  go_wp2_with fail
  clear h1 h2 hN
  go_loopw [4, 5] (fun v i wr => ∃ (j : Nat) (z : Int), j ≤ 6 ∧ i = .int .i64 z ∧ z = 5 - (j : Int) ∧ wr.ownsRow w.heap.size 5 1 v j (Lib.byteCells ((hexL N).take j)) ∧ Below w.heap.size w wr) (fun _ i _ => (intOf i + 1).toNat)
  case atStart => exact ⟨0, 5, by omega, rfl, by omega, World.ownsRow_nil .., Below.refl _ _⟩
  case round =>
    obtain ⟨j, z, hj, rfl, hz, hown, hb⟩ := hrel
    have hbs := hb.size
    by_cases hj6 : j < 6
    · obtain ⟨A1, c1, rfl, _⟩ := own_shape hown
      obtain ⟨q, hq⟩ : ∃ q : Nat, q = N / 16 ^ (5 - j) % 16 := ⟨_, rfl⟩
      have hq16 : q < 16 := by omega
      have hdv := dig_at q hq16 hq16
      have HDV := Lib.hid hdv
      have hqn : Hid (hexD (N / 16 ^ (5 - j) % 16) = hexD q) := Lib.hid (by rw [hq])
      unfold DIG at HDV
      clear hdv
      have hz0 : 0 ≤ z := by omega
      have hz5 : z ≤ 5 := by omega
      have hand : bits .and .i64 ((N : Int) / 2 ^ (4 * z).toNat) 15 = (q : Int) := by
        have e : (4 * z).toNat = 4 * (5 - j) := by omega
        have e2 : (16 : Nat) ^ (5 - j) = 2 ^ (4 * (5 - j)) := by rw [Nat.pow_mul]
        rw [i64_and4, e, hq, e2, Int.natCast_emod, Int.natCast_ediv, Int.natCast_pow]
        rfl
      have HZ := Lib.hid hz
      clear hq hz
      go_wp2_with (at_builtin; refine append_byte_at rfl (.tmp 16) (.tmp 23) rfl w.heap.size _ j _ _ rfl rfl hown wr.heap.size (by simp) rfl (by omega) hbs ?_; intro v1 w1 hown1 hgr1 hob1)
      have hgr2 : wr.grownBy w1 (Value.slice A1 j c1).ownBlock := hgr1
      have hz2 := HZ.out
      exact ⟨⟨j + 1, z - 1, by omega, rfl, by omega, own_digit hj6 (by rw [HDV.out, hqn.out]) hown1, hb.grown hgr2 hbs (fun k hk => (hown.lt k hk).1)⟩, by simp [intOf]; omega⟩
    · obtain rfl : j = 6 := by omega
      obtain rfl : z = -1 := by omega
      have hcv := conv_row (bs := hexL N) hown (by simp [hexL]) 40 9 Tryd.underlying40 Tryd.underlying9
      go_wp2_with fail
      go_ret2
      exact ⟨rfl, hb⟩
end Go.Proofs.YtcbkgcnajplagaaDoor
end
