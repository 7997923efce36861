/- Texts of so many zero bytes; lists of numbers. Conditions: none. -/
import Derived.Test.YtkehojgiappiiaaGreatDoorAwake
import Derived.Deep.OwnRows
set_option linter.unusedVariables false
set_option linter.unusedSimpArgs false
namespace Go.Proofs.YtkehojgiappiiaaGreatDoor
open Go Go.RowKit
theorem i64_and3 (n : Int) : bits .and .i64 n 3 = n % 4 := by
  have hm : (BitVec.ofInt 64 3).toNat = 2 ^ 2 - 1 := by decide
  have key : (BitVec.ofInt 64 n &&& BitVec.ofInt 64 3).toNat = (n % ((2 ^ 64 : Nat) : Int)).toNat % 2 ^ 2 := by
    rw [BitVec.toNat_and, BitVec.toNat_ofInt, hm, Nat.and_two_pow_sub_one_eq_mod]
  show IntKind.i64.wrap ((BitVec.ofInt 64 n &&& BitVec.ofInt 64 3).toNat : Nat) = n % 4
  rw [key, IntKind.wrap_i64]
  omega
theorem i64_and255 (n : Int) : bits .and .i64 n 255 = n % 256 := by
  have hm : (BitVec.ofInt 64 255).toNat = 2 ^ 8 - 1 := by decide
  have key : (BitVec.ofInt 64 n &&& BitVec.ofInt 64 255).toNat = (n % ((2 ^ 64 : Nat) : Int)).toNat % 2 ^ 8 := by
    rw [BitVec.toNat_and, BitVec.toNat_ofInt, hm, Nat.and_two_pow_sub_one_eq_mod]
  show IntKind.i64.wrap ((BitVec.ofInt 64 n &&& BitVec.ofInt 64 255).toNat : Nat) = n % 256
  rw [key, IntKind.wrap_i64]
  omega
theorem i64_and63 (n : Int) : bits .and .i64 n 63 = n % 64 := by
  have hm : (BitVec.ofInt 64 63).toNat = 2 ^ 6 - 1 := by decide
  have key : (BitVec.ofInt 64 n &&& BitVec.ofInt 64 63).toNat = (n % ((2 ^ 64 : Nat) : Int)).toNat % 2 ^ 6 := by
    rw [BitVec.toNat_and, BitVec.toNat_ofInt, hm, Nat.and_two_pow_sub_one_eq_mod]
  show IntKind.i64.wrap ((BitVec.ofInt 64 n &&& BitVec.ofInt 64 63).toNat : Nat) = n % 64
  rw [key, IntKind.wrap_i64]
  omega
def zL (n : Nat) : List UInt8 := List.replicate n 0
theorem zL_len (n : Nat) : (zL n).length = n := List.length_replicate
theorem row_z (w : World) (n : Nat) : (convert 55 9 (.slice (some ⟨w.heap.size, 0, none⟩) n n)).run Tryz.prog (w.alloc (.cells (madeCells #[.int .u8 0] n) 5)) = .ok (.string ⟨(zL n).toArray⟩) (w.alloc (.cells (madeCells #[.int .u8 0] n) 5)) := by
  have h := run_convert_bytes_back (P := Tryz.prog) (w.alloc (.cells (madeCells #[.int .u8 0] n) 5)) 55 9 5 ⟨w.heap.size, 0, none⟩ n (zL n) Tryz.underlying55 Tryz.underlying5 Tryz.underlying9 (fun j hj => by
    have hj2 : j < n := by simpa [zL] using hj
    rw [add_flat, Nat.zero_add, World.cell?_alloc_mark]
    simp [madeCells, hj2, Nat.mod_one, zL])
  rw [zL_len] at h
  exact h
theorem make_z (n : Nat) (hn : n ≤ 1000000) : ∀ w : World, (Instr.makeSlice 55 (.int .i64 (n : Int)) (.int .i64 (n : Int))).run Tryz.prog w = .ok (.slice (some ⟨w.heap.size, 0, none⟩) n n) (w.alloc (.cells (madeCells #[.int .u8 0] n) 5)) :=
  run_make_row' (P := Tryz.prog) 55 5 (.int .u8 0) 1 Tryz.underlying55 byte_row rfl .i64 .i64 n (by omega) (by omega)
/-- Numbers as cells. -/
def intL (l : List Int) : List Value := l.map (Value.int .i64)
theorem reads_int {w : World} {B n k : Nat} {A : Option Addr} {l : List Int} (h : Reads w B 1 A n (intL l)) (hk : k < n) : ∃ ad z, A = some ad ∧ ad.block < B ∧ w.cell? (ad.add k) = some (.int .i64 z) := by
  obtain ⟨ad, u, e, hb, hx, hc⟩ := h.at_ hk
  unfold intL at hx
  rw [List.getElem?_map] at hx
  obtain ⟨z, _, rfl⟩ := Option.map_eq_some_iff.1 hx
  exact ⟨ad, z, e, hb, hc⟩
theorem logf_no {w : World} {F G : Nat → Prop} {p d N t st B : Nat} {R : List (List UInt8)} {sr : Nat} {su : List ByteArray} {l : List (Nat × ByteArray)} (h : LogF w B F G p d N t st R sr su l) (r : List UInt8) (x : Int) (hx : joinE [r] (128 * hB N t - (encs R).length) = x) (hne : x ≠ 0) :
    Calls Tryz.prog 8 #[.pointer (some ⟨p, 0, none⟩), .string ⟨r.toArray⟩] w fun e w' => e = .returned (.int .i64 x) ∧ LogF w' B F G p d N t st R sr su l ∧ Below B w w' := by
  refine (add_no h.log r x hx hne h.tab.t1).mono ?_
  rintro e w' ⟨rfl, hb⟩
  exact ⟨rfl, h.below hb, hb.mono h.tab.le⟩
theorem one_long {r : List UInt8} {M : Nat} (h : 32768 < r.length) : joinE [r] M = 23 := joinE_long (List.mem_singleton.2 rfl) (by omega)
theorem one_full {r : List UInt8} {M : Nat} (h : r.length ≤ 32768) (h2 : M < r.length + 14) : joinE [r] M = 70 := joinE_full (fun x hx => by simp only [List.mem_singleton] at hx; rw [hx]; exact h) (by simp [encs, enc_len]; omega)
end Go.Proofs.YtkehojgiappiiaaGreatDoor
