/- A sum of 24 bits, doubled bit by bit: it is linear, it tells three bytes in a row: plain. Conditions: none. -/
import Derived.LoopTactic
import Derived.Lib.Hide
set_option linter.unusedVariables false
set_option linter.unusedSimpArgs false
namespace Go.Proofs.YtcbkgcnajplagaaDoor
open Go Go.RowKit

/-- One doubling. -/
def D (x : BitVec 24) : BitVec 24 := (x <<< 1) ^^^ (if x.msb then 0x864cfb#24 else 0#24)
theorem xlc (a b c : BitVec 24) : a ^^^ (b ^^^ c) = b ^^^ (a ^^^ c) := by rw [← BitVec.xor_assoc, BitVec.xor_comm a b, BitVec.xor_assoc]
theorem D_xor (x y : BitVec 24) : D (x ^^^ y) = D x ^^^ D y := by
  unfold D
  rw [BitVec.shiftLeft_xor_distrib, BitVec.msb_xor]
  cases x.msb <;> cases y.msb <;> simp [BitVec.xor_assoc, BitVec.xor_comm, xlc]
theorem D_zero {x : BitVec 24} (h : D x = 0#24) : x = 0#24 := by
  unfold D at h
  cases hm : x.msb with
  | true =>
    rw [hm] at h
    have := congrArg (fun z : BitVec 24 => z.getLsbD 0) h
    simp at this
  | false =>
    rw [hm] at h
    simp at h
    have h2 : x.toNat < 2 ^ 23 := by
      rw [BitVec.msb_eq_decide] at hm
      simpa using hm
    have h3 := congrArg BitVec.toNat h
    simp [BitVec.toNat_shiftLeft, Nat.shiftLeft_eq] at h3
    apply BitVec.eq_of_toNat_eq
    simp
    omega
theorem xor_zero {x y : BitVec 24} (h : x ^^^ y = 0#24) : x = y := by
  have : x ^^^ y ^^^ y = 0#24 ^^^ y := by rw [h]
  rwa [BitVec.xor_assoc, BitVec.xor_self, BitVec.xor_zero, BitVec.zero_xor] at this
theorem D_inj {x y : BitVec 24} (h : D x = D y) : x = y := by
  refine xor_zero (D_zero ?_)
  rw [D_xor, h, BitVec.xor_self]
/-- So many doublings. -/
def Dn : Nat → BitVec 24 → BitVec 24
  | 0, x => x
  | k + 1, x => Dn k (D x)
theorem Dn_xor (k : Nat) : ∀ x y, Dn k (x ^^^ y) = Dn k x ^^^ Dn k y := by
  induction k with
  | zero => exact fun _ _ => rfl
  | succ k ih => intro x y; rw [Dn, D_xor, ih]; rfl
theorem Dn_inj (k : Nat) : ∀ {x y}, Dn k x = Dn k y → x = y := by
  induction k with
  | zero => exact fun h => h
  | succ k ih => exact fun h => D_inj (ih h)
theorem Dn_add (a : Nat) : ∀ (b : Nat) x, Dn a (Dn b x) = Dn (b + a) x := by
  intro b
  induction b with
  | zero => intro x; simp [Dn]
  | succ b ih => intro x; rw [show b + 1 + a = (b + a) + 1 by omega, Dn, Dn, ih]
theorem D_small {n : Nat} (h : 2 * n < 2 ^ 24) : D (BitVec.ofNat 24 n) = BitVec.ofNat 24 (2 * n) := by
  have hm : (BitVec.ofNat 24 n).msb = false := by
    rw [BitVec.msb_eq_decide]
    simp
    omega
  unfold D
  rw [hm]
  apply BitVec.eq_of_toNat_eq
  simp [BitVec.toNat_shiftLeft, Nat.shiftLeft_eq]
  omega
theorem Dn_small (k : Nat) : ∀ {n : Nat}, 2 ^ k * n < 2 ^ 24 → Dn k (BitVec.ofNat 24 n) = BitVec.ofNat 24 (2 ^ k * n) := by
  induction k with
  | zero => intro n _; simp [Dn]
  | succ k ih =>
    intro n h
    rw [Nat.pow_succ] at h ⊢
    have hk : 0 < 2 ^ k := Nat.pow_pos (by omega)
    have h1 : 2 * n ≤ 2 ^ k * (2 * n) := Nat.le_mul_of_pos_left _ hk
    have h2 : 2 ^ k * (2 * n) = 2 ^ k * 2 * n := by rw [Nat.mul_assoc]
    rw [Dn, D_small (by omega), ih (by omega), h2]
/-- The document's step of a byte. -/
def step (c : BitVec 24) (b : UInt8) : BitVec 24 := Dn 8 (c ^^^ BitVec.ofNat 24 (b.toNat * 65536))
def crcL (c : BitVec 24) (l : List UInt8) : BitVec 24 := l.foldl step c
def crcS (s : ByteArray) : BitVec 24 := crcL 0xb704ce#24 s.data.toList
theorem crcL_append (c : BitVec 24) (l m : List UInt8) : crcL c (l ++ m) = crcL (crcL c l) m := by simp [crcL]
theorem crcL_cons (c : BitVec 24) (b : UInt8) (l : List UInt8) : crcL c (b :: l) = crcL (step c b) l := by simp [crcL]
theorem step_inj {c c' : BitVec 24} {b : UInt8} (h : step c b = step c' b) : c = c' := by
  have := Dn_inj 8 h
  have h2 : c ^^^ BitVec.ofNat 24 (b.toNat * 65536) ^^^ BitVec.ofNat 24 (b.toNat * 65536) = c' ^^^ BitVec.ofNat 24 (b.toNat * 65536) ^^^ BitVec.ofNat 24 (b.toNat * 65536) := by rw [this]
  rwa [BitVec.xor_assoc, BitVec.xor_self, BitVec.xor_zero, BitVec.xor_assoc, BitVec.xor_self, BitVec.xor_zero] at h2
theorem crcL_inj : ∀ (l : List UInt8) {c c' : BitVec 24}, crcL c l = crcL c' l → c = c'
  | [], _, _, h => h
  | b :: l, _, _, h => step_inj (crcL_inj l h)
theorem step3 (c : BitVec 24) (x y z : UInt8) : step (step (step c x) y) z = Dn 24 (c ^^^ BitVec.ofNat 24 (x.toNat * 65536) ^^^ BitVec.ofNat 24 (y.toNat * 256) ^^^ BitVec.ofNat 24 z.toNat) := by
  have hy : BitVec.ofNat 24 (y.toNat * 65536) = Dn 8 (BitVec.ofNat 24 (y.toNat * 256)) := by
    have := y.toNat_lt
    rw [Dn_small 8 (by omega)]
    congr 1
    omega
  have hz : BitVec.ofNat 24 (z.toNat * 65536) = Dn 16 (BitVec.ofNat 24 z.toNat) := by
    have := z.toNat_lt
    rw [Dn_small 16 (by omega)]
    congr 1
    omega
  unfold step
  rw [hy, hz, ← Dn_xor, Dn_add, ← Dn_xor, Dn_add]
theorem nat_xor_add (i a b : Nat) (hb : b < 2 ^ i) : 2 ^ i * a ^^^ b = 2 ^ i * a + b := by
  rw [Nat.two_pow_add_eq_or_of_lt hb]
  apply Nat.eq_of_testBit_eq
  intro j
  rw [Nat.testBit_xor, Nat.testBit_or, Nat.testBit_two_pow_mul]
  by_cases hj : i ≤ j
  · have : b.testBit j = false := Nat.testBit_lt_two_pow (Nat.lt_of_lt_of_le hb (Nat.pow_le_pow_right (by omega) hj))
    rw [this]
    simp
  · simp [hj]
theorem three_xor (x y z : UInt8) : BitVec.ofNat 24 (x.toNat * 65536) ^^^ BitVec.ofNat 24 (y.toNat * 256) ^^^ BitVec.ofNat 24 z.toNat = BitVec.ofNat 24 (x.toNat * 65536 + y.toNat * 256 + z.toNat) := by
  have hx := x.toNat_lt
  have hy := y.toNat_lt
  have hz := z.toNat_lt
  apply BitVec.eq_of_toNat_eq
  simp only [BitVec.toNat_xor, BitVec.toNat_ofNat]
  rw [Nat.mod_eq_of_lt (by omega), Nat.mod_eq_of_lt (by omega), Nat.mod_eq_of_lt (by omega), Nat.mod_eq_of_lt (by omega)]
  have e1 := nat_xor_add 16 x.toNat (y.toNat * 256) (by omega)
  have e2 := nat_xor_add 8 (x.toNat * 256 + y.toNat) z.toNat (by omega)
  rw [show x.toNat * 65536 = 2 ^ 16 * x.toNat by omega, e1]
  rw [show 2 ^ 16 * x.toNat + y.toNat * 256 = 2 ^ 8 * (x.toNat * 256 + y.toNat) by omega, e2]
theorem burst {c : BitVec 24} {x y z x' y' z' : UInt8} (h : step (step (step c x) y) z = step (step (step c x') y') z') : x = x' ∧ y = y' ∧ z = z' := by
  rw [step3, step3] at h
  have h1 := Dn_inj 24 h
  have h2 : c ^^^ (BitVec.ofNat 24 (x.toNat * 65536) ^^^ BitVec.ofNat 24 (y.toNat * 256) ^^^ BitVec.ofNat 24 z.toNat) = c ^^^ (BitVec.ofNat 24 (x'.toNat * 65536) ^^^ BitVec.ofNat 24 (y'.toNat * 256) ^^^ BitVec.ofNat 24 z'.toNat) := by
    simpa [BitVec.xor_assoc] using h1
  rw [three_xor, three_xor] at h2
  have h3 : c ^^^ (c ^^^ BitVec.ofNat 24 (x.toNat * 65536 + y.toNat * 256 + z.toNat)) = c ^^^ (c ^^^ BitVec.ofNat 24 (x'.toNat * 65536 + y'.toNat * 256 + z'.toNat)) := by rw [h2]
  rw [← BitVec.xor_assoc, ← BitVec.xor_assoc, BitVec.xor_self, BitVec.zero_xor, BitVec.zero_xor] at h3
  have h4 := congrArg BitVec.toNat h3
  have hx := x.toNat_lt
  have hy := y.toNat_lt
  have hz := z.toNat_lt
  have hx' := x'.toNat_lt
  have hy' := y'.toNat_lt
  have hz' := z'.toNat_lt
  simp only [BitVec.toNat_ofNat] at h4
  rw [Nat.mod_eq_of_lt (by omega), Nat.mod_eq_of_lt (by omega)] at h4
  exact ⟨UInt8.toNat_inj.1 (by omega), UInt8.toNat_inj.1 (by omega), UInt8.toNat_inj.1 (by omega)⟩
theorem crc_burst {c : BitVec 24} {p q : List UInt8} {x y z x' y' z' : UInt8} (h : crcL c (p ++ x :: y :: z :: q) = crcL c (p ++ x' :: y' :: z' :: q)) : x = x' ∧ y = y' ∧ z = z' := by
  rw [crcL_append, crcL_append, crcL_cons, crcL_cons, crcL_cons, crcL_cons, crcL_cons, crcL_cons] at h
  exact burst (crcL_inj q h)
/-- One sum xor the others. -/
theorem step_adds (a b c : BitVec 24) (x y z : UInt8) : step (a ^^^ b ^^^ c) (x ^^^ y ^^^ z) = step a x ^^^ step b y ^^^ step c z := by
  unfold step
  rw [← Dn_xor, ← Dn_xor]
  congr 1
  have e : BitVec.ofNat 24 ((x ^^^ y ^^^ z).toNat * 65536) = BitVec.ofNat 24 (x.toNat * 65536) ^^^ BitVec.ofNat 24 (y.toNat * 65536) ^^^ BitVec.ofNat 24 (z.toNat * 65536) := by
    have h : ∀ n : Nat, n < 256 → (BitVec.ofNat 24 (n * 65536)).toNat = n * 2 ^ 16 := by
      intro n hn
      rw [BitVec.toNat_ofNat, Nat.mod_eq_of_lt (by omega)]
    apply BitVec.eq_of_toNat_eq
    rw [BitVec.toNat_xor, BitVec.toNat_xor, h _ (UInt8.toNat_lt _), h _ (UInt8.toNat_lt _), h _ (UInt8.toNat_lt _), h _ (UInt8.toNat_lt _)]
    rw [UInt8.toNat_xor, UInt8.toNat_xor]
    simp only [← Nat.shiftLeft_eq, Nat.shiftLeft_xor_distrib]
  rw [e]
  simp only [BitVec.xor_assoc, BitVec.xor_comm, xlc]
theorem crc_adds : ∀ (l m n : List UInt8) (a b c : BitVec 24), l.length = m.length → m.length = n.length → crcL (a ^^^ b ^^^ c) (List.zipWith (· ^^^ ·) (List.zipWith (· ^^^ ·) l m) n) = crcL a l ^^^ crcL b m ^^^ crcL c n
  | [], [], [], _, _, _, _, _ => rfl
  | x :: l, y :: m, z :: n, a, b, c, h1, h2 => by
    rw [List.zipWith_cons_cons, List.zipWith_cons_cons, crcL_cons, crcL_cons, crcL_cons, crcL_cons, step_adds]
    exact crc_adds l m n _ _ _ (by simpa using h1) (by simpa using h2)
/-- The table of four bits. -/
def tab : List Nat := [0x000000, 0x864cfb, 0x8ad50d, 0x0c99f6, 0x93e6e1, 0x15aa1a, 0x1933ec, 0x9f7f17, 0xa18139, 0x27cdc2, 0x2b5434, 0xad18cf, 0x3267d8, 0xb42b23, 0xb8b2d5, 0x3efe2e]
theorem tab_ok : ∀ h : Fin 16, Dn 4 (BitVec.ofNat 24 (h.val * 1048576)) = BitVec.ofNat 24 (tab.getD h.val 0) := by decide +kernel
theorem tab_lt : ∀ h : Fin 16, tab.getD h.val 0 < 16777216 := by decide +kernel
theorem four_on (x : BitVec 24) : (Dn 4 x).toNat = (x.toNat * 16) % 16777216 ^^^ tab.getD (x.toNat / 1048576) 0 := by
  have hx := x.isLt
  have hh : x.toNat / 1048576 < 16 := by omega
  have e : x = BitVec.ofNat 24 (x.toNat / 1048576 * 1048576) ^^^ BitVec.ofNat 24 (x.toNat % 1048576) := by
    apply BitVec.eq_of_toNat_eq
    simp only [BitVec.toNat_xor, BitVec.toNat_ofNat]
    rw [Nat.mod_eq_of_lt (show x.toNat / 1048576 * 1048576 < 2 ^ 24 by omega), Nat.mod_eq_of_lt (show x.toNat % 1048576 < 2 ^ 24 by omega)]
    have := nat_xor_add 20 (x.toNat / 1048576) (x.toNat % 1048576) (by omega)
    rw [show x.toNat / 1048576 * 1048576 = 2 ^ 20 * (x.toNat / 1048576) by omega, this]
    omega
  have h1 := tab_ok ⟨_, hh⟩
  have h2 := tab_lt ⟨_, hh⟩
  simp only at h1 h2
  conv => lhs; rw [e]
  rw [Dn_xor, h1, Dn_small 4 (by omega), BitVec.toNat_xor, BitVec.toNat_ofNat, BitVec.toNat_ofNat, Nat.mod_eq_of_lt (show tab.getD (x.toNat / 1048576) 0 < 2 ^ 24 by omega), Nat.xor_comm]
  congr 1
  omega
/-- One doubling as the document says it. -/
theorem D_nat (x : BitVec 24) : (D x).toNat = if 16777216 ≤ 2 * x.toNat then 2 * x.toNat ^^^ 0x1864cfb else 2 * x.toNat := by
  have hx := x.isLt
  have hm : x.msb = decide (16777216 ≤ 2 * x.toNat) := by
    rw [BitVec.msb_eq_decide, decide_eq_decide]
    omega
  unfold D
  rw [hm]
  by_cases h : 16777216 ≤ 2 * x.toNat
  · rw [decide_eq_true h, if_pos rfl, if_pos h]
    have e1 := nat_xor_add 24 1 (2 * x.toNat - 16777216) (by omega)
    have e2 := nat_xor_add 24 1 0x864cfb (by omega)
    have e3 : 2 * x.toNat = 2 ^ 24 * 1 ^^^ (2 * x.toNat - 16777216) := by rw [e1]; omega
    have e4 : (0x1864cfb : Nat) = 2 ^ 24 * 1 ^^^ 0x864cfb := by rw [e2]
    have e5 : 2 * x.toNat ^^^ 0x1864cfb = (2 * x.toNat - 16777216) ^^^ 0x864cfb := by
      rw [e4]
      conv => lhs; rw [e3]
      rw [Nat.xor_comm (2 ^ 24 * 1) (2 * x.toNat - 16777216), Nat.xor_assoc, ← Nat.xor_assoc (2 ^ 24 * 1) (2 ^ 24 * 1), Nat.xor_self, Nat.zero_xor]
    have e6 : 2 * x.toNat - 16777216 = x.toNat * 2 ^ 1 % 2 ^ 24 := by omega
    rw [e5, BitVec.toNat_xor, BitVec.toNat_shiftLeft, Nat.shiftLeft_eq, e6]
    rfl
  · rw [decide_eq_false h, if_neg (by simp), if_neg h]
    rw [BitVec.xor_zero, BitVec.toNat_shiftLeft, Nat.shiftLeft_eq]
    omega
end Go.Proofs.YtcbkgcnajplagaaDoor
