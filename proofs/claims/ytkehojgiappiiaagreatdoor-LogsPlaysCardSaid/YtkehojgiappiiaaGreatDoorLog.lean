/- A log's half of a disk, and a log in memory; what the small functions of package logs return: given, blocksOf, bytes, halfOf. Conditions: those named in each. -/
import Derived.Test.YtkehojgiappiiaaGreatDoorChk
import Derived.Test.YtkehojgiappiiaaGreatDoorBuild
import Derived.Test.YtkehojgiappiiaaGreatDoorAll
import Derived.StillTailTactics
set_option linter.unusedVariables false
set_option linter.unusedSimpArgs false
namespace Go.Proofs.YtkehojgiappiiaaGreatDoor
open Go Go.RowKit
theorem bytes_ne {s s' : ByteArray} (h : ¬ s = s') : (s.toList == s'.toList) = false := by
  rw [beq_eq_false_iff_ne, Ne, Go.ByteArray.toList_eq, Go.ByteArray.toList_eq]
  intro e
  exact h (ByteArray.ext (Array.toList_inj.1 e))
theorem i64_and1 (n : Int) : bits .and .i64 n 1 = n % 2 := by
  have hm : (BitVec.ofInt 64 1).toNat = 2 ^ 1 - 1 := by decide
  have key : (BitVec.ofInt 64 n &&& BitVec.ofInt 64 1).toNat = (n % ((2 ^ 64 : Nat) : Int)).toNat % 2 ^ 1 := by
    rw [BitVec.toNat_and, BitVec.toNat_ofInt, hm, Nat.and_two_pow_sub_one_eq_mod]
  show IntKind.i64.wrap ((BitVec.ofInt 64 n &&& BitVec.ofInt 64 1).toNat : Nat) = n % 2
  rw [key, IntKind.wrap_i64]
  omega
/-- A half's first block, and how many, of a disk of so many blocks, at a turn. -/
def hF (N t : Nat) : Nat := if t % 2 = 0 then 2 else 2 + (N - 2) / 2
def hB (N t : Nat) : Nat := if t % 2 = 0 then (N - 2) / 2 else (N - 2) - (N - 2) / 2
theorem hFB (N t : Nat) (h4 : 4 ≤ N) : 2 ≤ hF N t ∧ hF N t + hB N t ≤ N ∧ 0 < hB N t := by
  unfold hF hB
  split <;> omega
theorem hFB_next (N t : Nat) (h4 : 4 ≤ N) : hF N t + hB N t ≤ hF N (t + 1) ∨ hF N (t + 1) + hB N (t + 1) ≤ hF N t := by
  unfold hF hB
  split <;> split <;> omega
def halfV (d f n : Nat) : Value := .agg #[.pointer (some ⟨d, 0, none⟩), .int .i64 (f : Int), .int .i64 (n : Int)]
/-- A half in a block. -/
def Hf (w : World) (B d f n : Nat) : Prop := w.heap[B]? = some (.cells #[.pointer (some ⟨d, 0, none⟩), .int .i64 (f : Int), .int .i64 (n : Int)] 57 (0, 0))
section
variable {w w' : World} {B d f n : Nat}
theorem Hf.lt (h : Hf w B d f n) : B < w.heap.size := (Array.getElem?_eq_some_iff.1 h).1
theorem Hf.c0 (h : Hf w B d f n) : w.cell? ⟨B, 0, none⟩ = some (.pointer (some ⟨d, 0, none⟩)) := by unfold Hf at h; simp [World.cell?, h]
theorem Hf.c1 (h : Hf w B d f n) : w.cell? ⟨B, 1, none⟩ = some (.int .i64 (f : Int)) := by unfold Hf at h; simp [World.cell?, h]
theorem Hf.c2 (h : Hf w B d f n) : w.cell? ⟨B, 2, none⟩ = some (.int .i64 (n : Int)) := by unfold Hf at h; simp [World.cell?, h]
theorem Hf.keep (h : Hf w B d f n) (e : w'.heap[B]? = w.heap[B]?) : Hf w' B d f n := e.trans h
theorem Hf.below (h : Hf w B d f n) (hb : Below w.heap.size w w') : Hf w' B d f n := h.keep (hb.block B h.lt)
theorem Hf.new (w : World) (d f n : Nat) : Hf (w.alloc (.cells #[.pointer (some ⟨d, 0, none⟩), .int .i64 (f : Int), .int .i64 (n : Int)] 57)) w.heap.size d f n := by
  show (w.heap.push _)[w.heap.size]? = _
  simp
theorem Hf.of3 {x y z u v r : Value} (h : w.heap[B]? = some (.cells #[x, y, z] 57 (0, 0))) (h0 : u = .pointer (some ⟨d, 0, none⟩)) (h1 : v = .int .i64 (f : Int)) (h2 : r = .int .i64 (n : Int)) :
    Hf (((w.setCell ⟨B, 0, none⟩ u).setCell ⟨B, 1, none⟩ v).setCell ⟨B, 2, none⟩ r) B d f n := by
  subst h0 h1 h2
  unfold Hf
  simp only [World.setCell, Array.getElem?_modify, h]
  simp
end
section
variable {w w' : World} {F : Nat → Prop} {d N : Nat} {su : List ByteArray} {l : List (Nat × ByteArray)}
set_option maxHeartbeats 1000000 in
theorem halfOf_any (h : Disk w F d N su l) (t : Nat) (ht : t ≤ 1000000000) (h4 : 4 ≤ N) (hN : N ≤ 16384) : Calls Tryz.prog 29 #[.pointer (some ⟨d, 0, none⟩), .int .i64 (t : Int)] w (Gives (halfV d (hF N t) (hB N t)) w) := by
  have hand := i64_and1 (t : Int)
  have hbl := fun q => a_blocks ((h.alloc (.cells #[.pointer none, .int .i64 0, .int .i64 0] 57)).drewN q)
  have hb0 : Below w.heap.size w (w.alloc (.cells #[.pointer none, .int .i64 0, .int .i64 0] 57)) := (Below.refl _ w).alloc (Nat.le_refl _) _
  have hnew : ∀ q, ((w.alloc (.cells #[.pointer none, .int .i64 0, .int .i64 0] 57)).drewN q).heap[w.heap.size]? = some (.cells #[.pointer none, .int .i64 0, .int .i64 0] 57 (0, 0)) := fun q => by
    show (w.heap.push _)[w.heap.size]? = _
    simp
  have HB := Lib.hid hbl
  have HN := Lib.hid hnew
  clear hbl hnew
  have key : ∀ (x y : Int), x = (hF N t : Int) → y = (hB N t : Int) → ∀ q, Hid (Hf (((((w.alloc (.cells #[.pointer none, .int .i64 0, .int .i64 0] 57)).drewN q).setCell ⟨w.heap.size, 0, none⟩ (.pointer (some ⟨d, 0, none⟩))).setCell ⟨w.heap.size, 1, none⟩ (.int .i64 x)).setCell ⟨w.heap.size, 2, none⟩ (.int .i64 y)) w.heap.size d (hF N t) (hB N t) ∧
      Below w.heap.size w (((((w.alloc (.cells #[.pointer none, .int .i64 0, .int .i64 0] 57)).drewN q).setCell ⟨w.heap.size, 0, none⟩ (.pointer (some ⟨d, 0, none⟩))).setCell ⟨w.heap.size, 1, none⟩ (.int .i64 x)).setCell ⟨w.heap.size, 2, none⟩ (.int .i64 y))) := fun x y hx hy q =>
    Lib.hid ⟨Hf.of3 (HN.out q) rfl (by rw [hx]) (by rw [hy]), below_setCell (below_setCell (below_setCell (below_drewN hb0 q) (Nat.le_refl _) _) (Nat.le_refl _) _) (Nat.le_refl _) _⟩
  by_cases hp : t % 2 = 0
  · have hz : (t : Int) % 2 = 0 := by omega
    rw [hz] at hand
    have HK := key 2 (((N : Int) - 2) / 2) (by unfold hF; rw [if_pos hp]; rfl) (by unfold hB; rw [if_pos hp]; omega)
    clear hz hp h key
    go_enter Tryz.func29, Tryz.ntmps29
    go_wp2_with fail
    refine (HB.out 0).mono ?_
    rintro e w1 ⟨rfl, q, rfl⟩
    go_wp2_with fail
    obtain ⟨k1, k2⟩ := (HK q).out
    refine bodyPost_ret (v := halfV d (hF N t) (hB N t)) ?_ rfl ⟨rfl, k2⟩
    simp [results, Tryz.results29, go_sem, k1.c0, k1.c1, k1.c2, halfV]
  · have hz : (t : Int) % 2 = 1 := by omega
    rw [hz] at hand
    have HK := key (2 + ((N : Int) - 2) / 2) (((N : Int) - 2) - ((N : Int) - 2) / 2) (by unfold hF; rw [if_neg hp]; omega) (by unfold hB; rw [if_neg hp]; omega)
    clear hz hp h key
    go_enter Tryz.func29, Tryz.ntmps29
    go_wp2_with fail
    refine (HB.out 0).mono ?_
    rintro e w1 ⟨rfl, q, rfl⟩
    go_wp2_with fail
    obtain ⟨k1, k2⟩ := (HK q).out
    refine bodyPost_ret (v := halfV d (hF N t) (hB N t)) ?_ rfl ⟨rfl, k2⟩
    simp [results, Tryz.results29, go_sem, k1.c0, k1.c1, k1.c2, halfV]
theorem hbytes_any (w : World) (d f n : Nat) (hn : n ≤ 16384) : Calls Tryz.prog 30 #[halfV d f n] w (Gives (.int .i64 ((128 * n : Nat) : Int)) w) := by
  have hx := Hf.new w d f n
  have hb0 : Below w.heap.size w (w.alloc (.cells #[.pointer (some ⟨d, 0, none⟩), .int .i64 (f : Int), .int .i64 (n : Int)] 57)) := (Below.refl _ w).alloc (Nat.le_refl _) _
  have c2 := hx.c2
  have hl := hx.lt
  unfold halfV
  go_enter Tryz.func30, Tryz.ntmps30
  go_wp2_with fail
  go_ret
  exact ⟨by push_cast; rw [Int.mul_comm]; rfl, hb0⟩
set_option maxRecDepth 100000 in
theorem blocksOf_any (s : ByteArray) (hs : s.size ≤ 1000000000) (w : World) : Calls Tryz.prog 24 #[.string s] w fun e w' => e = .returned (.int .i64 (((s.size + 127) / 128 : Nat) : Int)) ∧ w = w' := by
  go_enter Tryz.func24, Tryz.ntmps24
  go_wp2_with fail
  go_ret
  refine ⟨?_, rfl⟩
  rw [show (((s.size + 127) / 128 : Nat) : Int) = ((s.size : Int) + 128 - 1) / 128 by omega]
  rfl
end
end Go.Proofs.YtkehojgiappiiaaGreatDoor
