/- What take of the document's answers returns: the rune that bytes begin with, and how many bytes it has, or noughts. Conditions: at least one byte. -/
import Derived.Test.YtdhiipnnmonkoaaDoorTakeB
import Derived.Test.YtdhiipnnmonkoaaDoorTakeC
set_option linter.unusedVariables false
namespace Go.Proofs.YtdhiipnnmonkoaaDoor
open Go Go.RowKit Go.Lib

theorem take_bytes (s : ByteArray) (w : World) (hs : s.size ≤ 9223372036854775807) (g0 : 0 < s.size) (x0 x1 x2 x3 : UInt8) (e0 : s[0] = x0) (f1 : ∀ g : 1 < s.size, s[1] = x1) (f2 : ∀ g : 2 < s.size, s[2] = x2) (f3 : ∀ g : 3 < s.size, s[3] = x3) :
    Calls Tryd.prog 29 #[.string s] w (TakePost s.size x0.toNat x1.toNat x2.toNat x3.toNat w) := by
  have z0 := x0.toNat_lt
  have z1 := x1.toNat_lt
  have z2 := x2.toNat_lt
  have z3 := x3.toNat_lt
  by_cases c1 : x0.toNat < 128
  · exact t1 s w hs x0 x1 x2 x3 g0 e0 c1
  by_cases c2 : x0.toNat < 192
  · exact t2 s w hs x0 x1 x2 x3 g0 e0 (by omega) c2
  by_cases c3 : 248 ≤ x0.toNat
  · exact t3 s w hs x0 x1 x2 x3 g0 e0 c3
  by_cases c4 : x0.toNat < 224
  · by_cases g1 : 1 < s.size
    · have e1 := f1 g1
      by_cases d1 : x1.toNat < 128
      · exact t4b s w hs x0 x1 x2 x3 g0 e0 g1 e1 (by omega) c4 d1
      by_cases d2 : 192 ≤ x1.toNat
      · exact t4c s w hs x0 x1 x2 x3 g0 e0 g1 e1 (by omega) c4 d2
      by_cases d3 : x0.toNat < 194
      · exact t4d s w hs x0 x1 x2 x3 g0 e0 g1 e1 (by omega) c4 (by omega) (by omega) d3
      · exact t4e s w hs x0 x1 x2 x3 g0 e0 g1 e1 (by omega) c4 (by omega) (by omega) (by omega)
    · exact t4a s w hs x0 x1 x2 x3 g0 e0 (by omega) c4 (by omega)
  by_cases c5 : x0.toNat < 240
  · by_cases g2 : 2 < s.size
    · have g1 : 1 < s.size := by omega
      have e1 := f1 g1
      have e2 := f2 g2
      by_cases d1 : x1.toNat < 128
      · exact t5b s w hs x0 x1 x2 x3 g0 e0 g1 e1 g2 e2 (by omega) c5 d1
      by_cases d2 : 192 ≤ x1.toNat
      · exact t5c s w hs x0 x1 x2 x3 g0 e0 g1 e1 g2 e2 (by omega) c5 d2
      by_cases d3 : x2.toNat < 128
      · exact t5d s w hs x0 x1 x2 x3 g0 e0 g1 e1 g2 e2 (by omega) c5 (by omega) (by omega) d3
      by_cases d4 : 192 ≤ x2.toNat
      · exact t5e s w hs x0 x1 x2 x3 g0 e0 g1 e1 g2 e2 (by omega) c5 (by omega) (by omega) d4
      by_cases v1 : x0.toNat % 16 * 4096 + x1.toNat % 64 * 64 + x2.toNat % 64 ≤ 127
      · exact t5f1 s w hs x0 x1 x2 x3 g0 e0 g1 e1 g2 e2 (by omega) c5 (by omega) (by omega) (by omega) (by omega) v1
      by_cases v2 : x0.toNat % 16 * 4096 + x1.toNat % 64 * 64 + x2.toNat % 64 ≤ 2047
      · exact t5f2 s w hs x0 x1 x2 x3 g0 e0 g1 e1 g2 e2 (by omega) c5 (by omega) (by omega) (by omega) (by omega) (by omega) v2
      by_cases v3 : x0.toNat % 16 * 4096 + x1.toNat % 64 * 64 + x2.toNat % 64 < 55296
      · exact t5h s w hs x0 x1 x2 x3 g0 e0 g1 e1 g2 e2 (by omega) c5 (by omega) (by omega) (by omega) (by omega) (by omega) v3
      by_cases v4 : x0.toNat % 16 * 4096 + x1.toNat % 64 * 64 + x2.toNat % 64 ≤ 57343
      · exact t5g s w hs x0 x1 x2 x3 g0 e0 g1 e1 g2 e2 (by omega) c5 (by omega) (by omega) (by omega) (by omega) (by omega) v4
      · exact t5i s w hs x0 x1 x2 x3 g0 e0 g1 e1 g2 e2 (by omega) c5 (by omega) (by omega) (by omega) (by omega) (by omega)
    · exact t5a s w hs x0 x1 x2 x3 g0 e0 (by omega) c5 (by omega)
  by_cases g3 : 3 < s.size
  · have g1 : 1 < s.size := by omega
    have g2 : 2 < s.size := by omega
    have e1 := f1 g1
    have e2 := f2 g2
    have e3 := f3 g3
    by_cases d1 : x1.toNat < 128
    · exact t6b s w hs x0 x1 x2 x3 g0 e0 g1 e1 g2 e2 g3 e3 (by omega) (by omega) d1
    by_cases d2 : 192 ≤ x1.toNat
    · exact t6c s w hs x0 x1 x2 x3 g0 e0 g1 e1 g2 e2 g3 e3 (by omega) (by omega) d2
    by_cases d3 : x2.toNat < 128
    · exact t6d s w hs x0 x1 x2 x3 g0 e0 g1 e1 g2 e2 g3 e3 (by omega) (by omega) (by omega) (by omega) d3
    by_cases d4 : 192 ≤ x2.toNat
    · exact t6e s w hs x0 x1 x2 x3 g0 e0 g1 e1 g2 e2 g3 e3 (by omega) (by omega) (by omega) (by omega) d4
    by_cases d5 : x3.toNat < 128
    · exact t6f s w hs x0 x1 x2 x3 g0 e0 g1 e1 g2 e2 g3 e3 (by omega) (by omega) (by omega) (by omega) (by omega) (by omega) d5
    by_cases d6 : 192 ≤ x3.toNat
    · exact t6g s w hs x0 x1 x2 x3 g0 e0 g1 e1 g2 e2 g3 e3 (by omega) (by omega) (by omega) (by omega) (by omega) (by omega) d6
    by_cases v1 : x0.toNat % 8 * 262144 + x1.toNat % 64 * 4096 + x2.toNat % 64 * 64 + x3.toNat % 64 ≤ 127
    · exact t6h1 s w hs x0 x1 x2 x3 g0 e0 g1 e1 g2 e2 g3 e3 (by omega) (by omega) (by omega) (by omega) (by omega) (by omega) (by omega) (by omega) v1
    by_cases v2 : x0.toNat % 8 * 262144 + x1.toNat % 64 * 4096 + x2.toNat % 64 * 64 + x3.toNat % 64 ≤ 2047
    · exact t6h2 s w hs x0 x1 x2 x3 g0 e0 g1 e1 g2 e2 g3 e3 (by omega) (by omega) (by omega) (by omega) (by omega) (by omega) (by omega) (by omega) (by omega) v2
    by_cases v3 : x0.toNat % 8 * 262144 + x1.toNat % 64 * 4096 + x2.toNat % 64 * 64 + x3.toNat % 64 < 55296
    · exact t6h3 s w hs x0 x1 x2 x3 g0 e0 g1 e1 g2 e2 g3 e3 (by omega) (by omega) (by omega) (by omega) (by omega) (by omega) (by omega) (by omega) (by omega) v3
    by_cases v4 : x0.toNat % 8 * 262144 + x1.toNat % 64 * 4096 + x2.toNat % 64 * 64 + x3.toNat % 64 ≤ 57343
    · exact t6h4 s w hs x0 x1 x2 x3 g0 e0 g1 e1 g2 e2 g3 e3 (by omega) (by omega) (by omega) (by omega) (by omega) (by omega) (by omega) (by omega) (by omega) v4
    by_cases v5 : x0.toNat % 8 * 262144 + x1.toNat % 64 * 4096 + x2.toNat % 64 * 64 + x3.toNat % 64 ≤ 65535
    · exact t6h5 s w hs x0 x1 x2 x3 g0 e0 g1 e1 g2 e2 g3 e3 (by omega) (by omega) (by omega) (by omega) (by omega) (by omega) (by omega) (by omega) (by omega) v5
    by_cases v6 : x0.toNat % 8 * 262144 + x1.toNat % 64 * 4096 + x2.toNat % 64 * 64 + x3.toNat % 64 ≤ 1114111
    · exact t6j s w hs x0 x1 x2 x3 g0 e0 g1 e1 g2 e2 g3 e3 (by omega) (by omega) (by omega) (by omega) (by omega) (by omega) (by omega) (by omega) (by omega) v6
    · exact t6i s w hs x0 x1 x2 x3 g0 e0 g1 e1 g2 e2 g3 e3 (by omega) (by omega) (by omega) (by omega) (by omega) (by omega) (by omega) (by omega) (by omega)
  · exact t6a s w hs x0 x1 x2 x3 g0 e0 (by omega) (by omega) (by omega)

theorem getD_str (s : ByteArray) (i : Nat) (h : i < s.size) : s[i] = s.data.toList.getD i 0 := by
  have h' : i < s.data.toList.length := by rw [size_list]; exact h
  rw [List.getD_eq_getElem?_getD, List.getElem?_eq_getElem h', Option.getD_some]
  simp
  rfl
theorem take_rune (s : ByteArray) (w : World) (hs : s.size ≤ 9223372036854775807) (r : Int) (hr : isR r = true) (t : List UInt8) (hl : s.data.toList = encodeRune r ++ t) :
    Calls Tryd.prog 29 #[.string s] w fun e w' => e = .returned (.tuple #[.int .i64 r, .int .i64 (encodeRune r).length]) ∧ w = w' := by
  have hlen := encodeRune_len r
  have g0 : 0 < s.size := by rw [← size_list, hl, List.length_append]; omega
  refine (take_bytes s w hs g0 _ _ _ _ (getD_str s 0 g0) (getD_str s 1) (getD_str s 2) (getD_str s 3)).mono ?_
  rintro e w' ⟨he, hw⟩
  have hd := decodeL_enc r hr t
  rw [← hl, decodeL_N, size_list] at hd
  have hp := (isR_iff r).1 hr
  rw [takeN_ok hd (by
    rintro ⟨h1, h2⟩
    have : r = 65533 := by omega
    subst this
    revert h2
    decide)] at he
  refine ⟨he.trans (ret2_int ?_ rfl), hw⟩
  simp only
  omega
theorem take_bad (s : ByteArray) (w : World) (hs : s.size ≤ 9223372036854775807) (h0 : 0 < s.size) (hb : BadHead s.data.toList) :
    Calls Tryd.prog 29 #[.string s] w fun e w' => e = .returned (.tuple #[.int .i64 0, .int .i64 0]) ∧ w = w' := by
  refine (take_bytes s w hs h0 _ _ _ _ (getD_str s 0 h0) (getD_str s 1) (getD_str s 2) (getD_str s 3)).mono ?_
  rintro e w' ⟨he, hw⟩
  have hd : decodeL s.data.toList = (65533, 1) := Prod.ext hb.1 hb.2
  rw [decodeL_N, size_list] at hd
  rw [takeN_bad hd] at he
  exact ⟨he, hw⟩
end Go.Proofs.YtdhiipnnmonkoaaDoor
