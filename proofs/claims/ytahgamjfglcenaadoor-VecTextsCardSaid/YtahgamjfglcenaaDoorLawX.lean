/- The walk of VecTexts. Conditions: Go's variables that it reads lie as start-up lays them. -/
import Derived.Test.YtahgamjfglcenaaDoorRPar
set_option linter.unusedVariables false
set_option linter.unusedSimpArgs false
namespace Go.Proofs.YtahgamjfglcenaaDoor
open Go Go.RowKit
def K0 : ByteArray := ⟨#[45, 49, 44, 48]⟩
theorem ok_known : okV [-1, 0] = true := by decide +kernel
theorem prn_known : prnB [-1, 0] = K0 := by
  apply bytes_ext
  rw [prnB_list, prn_cons, prn_one]
  have h1 : Lib.itoa (-1) = [45, 49] := by
    unfold Lib.itoa
    rw [if_pos (by decide), Lib.decDigits, dif_pos (by decide)]
    rfl
  have h2 : Lib.itoa 0 = [48] := by
    unfold Lib.itoa
    rw [if_neg (by decide), Lib.decDigits, dif_pos (by decide)]
    rfl
  rw [h1, h2]
  rfl
theorem parse_known {out : List Int} {er : Int} (h : ParseR K0 out er) : out = [-1, 0] ∧ er = 0 := h.same (.inl ⟨rfl, ok_known, prn_known.symm⟩)
theorem known_print : PPost [-1, 0] = fun w e w' => e = .returned (.tuple #[.string K0, .int .i64 0]) ∧ Below w.heap.size w w' := by
  unfold PPost prS prE
  rw [ok_known, prn_known]
  rfl
set_option maxHeartbeats 2000000 in
theorem texts_any (w : World) (h : LibW w) : Calls Tryd.prog 9 #[] w (Gives (.bool true) w) := by
  obtain ⟨W, hW⟩ : ∃ W, W = w.alloc (.cells #[.int .i64 (-1), .int .i64 0] 3) := ⟨_, rfl⟩
  have hB : Below w.heap.size w W := by rw [hW]; exact (Below.refl _ w).alloc (Nat.le_refl _) _
  have hr : Reads W W.heap.size 1 (some ⟨w.heap.size, 0, none⟩) 2 (ints [-1, 0]) := by
    have := news_int w [-1, 0] (by decide)
    rw [hW]
    simpa [ints] using this
  have hpr := print_any (some ⟨w.heap.size, 0, none⟩) 2 2 [-1, 0] W hr (by decide) ((h.next hB).tabs)
  rw [known_print] at hpr
  have hpa := fun (W2 : World) (hb : Below W.heap.size W W2) => parse_any K0 (by decide) W2 ((h.next hB).next hb)
  have H := Lib.hid (And.intro hB (And.intro hpr hpa))
  unfold K0 at H
  have HW := Lib.hid hW
  clear hB hr hpr hpa hW h
  go_enter Tryd.func9, Tryd.ntmps9
  go_wp2_with fail
  rw [← HW.out]
  refine H.out.2.1.mono ?_
  rintro e w2 ⟨rfl, hb2⟩
  have HB2 := Lib.hid hb2
  clear hb2
  go_wp2_with fail
  refine (H.out.2.2 w2 HB2.out).mono ?_
  rintro e w3 ⟨A, m, c, out, er, rfl, hP, hR, hm, hb3⟩
  obtain ⟨rfl, rfl⟩ := parse_known hP
  obtain rfl : m = 2 := hR.len
  have hall := below_then H.out.1 (below_then HB2.out hb3)
  obtain ⟨W4, hW4⟩ : ∃ W4, W4 = w3.alloc (.cells #[.int .i64 (-1), .int .i64 0] 3) := ⟨_, rfl⟩
  have hr4 : Reads W4 W4.heap.size 1 (some ⟨w3.heap.size, 0, none⟩) 2 (ints [-1, 0]) := by
    have := news_int w3 [-1, 0] (by decide)
    rw [hW4]
    simpa [ints] using this
  have hb4 : Below w3.heap.size w3 W4 := by rw [hW4]; exact (Below.refl _ w3).alloc (Nat.le_refl _) _
  have hsi := sameInts_any A (some ⟨w3.heap.size, 0, none⟩) 2 2 c 2 _ _ [-1, 0] [-1, 0] W4 (hR.below hb4) hr4 hm (by decide)
  rw [show decide (([-1, 0] : List Int) = [-1, 0]) = true from decide_eq_true rfl] at hsi
  have H4 := Lib.hid (And.intro (below_then hall hb4) (And.intro hsi hW4))
  clear hP hR hb3 hall hr4 hb4 hsi hW4
  go_wp2_with fail
  rw [← H4.out.2.2]
  refine H4.out.2.1.mono ?_
  rintro e w5 ⟨rfl, q, rfl⟩
  go_wp2_with fail
  go_ret
  exact ⟨rfl, below_drewN H4.out.1 q⟩
set_option maxHeartbeats 4000000 in
set_option maxRecDepth 100000 in
theorem vecTexts_walk (A : Option Addr) (n c : Nat) (v : List Int) (s : ByteArray) (W : World) (hx : Reads W W.heap.size 1 A n (ints v)) (hm : n ≤ maxLen) (hs : s.size ≤ 9223372036854775807) (h : LibW W) :
    Calls Tryd.prog 3 #[.slice A n c, .string s] W (Gives (.bool true) W) := by
  have H := Lib.hid (And.intro hx (And.intro hm h))
  have HL := Lib.hid hx.len
  clear hx hm h
  go_enter Tryd.func3, Tryd.ntmps3
  go_wp2_with fail
  refine (print_any A n c v W H.out.1 H.out.2.1 H.out.2.2.tabs).mono ?_
  rintro e w1 ⟨rfl, hb1⟩
  have H1 := Lib.hid (And.intro (H.out.1.below hb1) (And.intro (H.out.2.2.next hb1) hb1))
  clear hb1
  go_wp2_with fail
  refine (rprint_any A n c v w1 (H1.out.1.more H1.out.2.2.size) H.out.2.1 H1.out.2.1.tabs).mono ?_
  rintro e w2 ⟨rfl, hb2⟩
  have H2 := Lib.hid (And.intro (H1.out.2.1.next hb2) (below_then H1.out.2.2 hb2))
  clear hb2
  go_wp2_with fail
  refine (parse_any s hs w2 H2.out.1).mono ?_
  rintro e w3 ⟨A3, m3, c3, o3, er3, rfl, hP3, hR3, hm3, hb3⟩
  have H3 := Lib.hid (And.intro (H2.out.1.next hb3) (And.intro (below_then H2.out.2 hb3) (And.intro hP3 (And.intro hR3 hm3))))
  clear hb3 hP3 hR3 hm3
  go_wp2_with fail
  refine (rparse_any s hs w3 H3.out.1).mono ?_
  rintro e w4 ⟨A4, m4, c4, o4, er4, rfl, hP4, hR4, hm4, hb4⟩
  obtain ⟨e1, e2⟩ := H3.out.2.2.1.same hP4
  subst e2
  have hsi := sameInts_any A3 A4 m3 m4 c3 c4 _ _ o3 o4 w4 (H3.out.2.2.2.1.below hb4) hR4 H3.out.2.2.2.2 hm4
  rw [show decide (o3 = o4) = true from decide_eq_true e1] at hsi
  have H4 := Lib.hid (And.intro (H3.out.1.next hb4) (And.intro (below_then H3.out.2.1 hb4) hsi))
  clear hP4 hR4 hm4 hb4 hsi e1
  obtain ⟨S, hS⟩ : ∃ S, prS v = S := ⟨_, rfl⟩
  obtain ⟨E, hE⟩ : ∃ E, prE v = E := ⟨_, rfl⟩
  rw [hS, hE]
  have HSE := Lib.hid (And.intro hS hE)
  clear hS hE
  go_wp2_with fail
  refine H4.out.2.2.mono ?_
  rintro e w5 ⟨rfl, q, rfl⟩
  have H5 := Lib.hid (And.intro (H4.out.1.next (below_drewN (Below.refl _ _) q)) (below_drewN H4.out.2.1 q))
  cases hok : okV v with
  | false =>
    have hE : E = 50 := by rw [← HSE.out.2]; unfold prE; rw [hok]; rfl
    subst hE
    clear hok
    go_wp2_with fail
    refine (texts_any _ H5.out.1).mono ?_
    rintro e w6 ⟨rfl, hb6⟩
    have HB6 := Lib.hid (below_then H5.out.2 hb6)
    clear hb6
    go_wp2_with fail
    go_ret
    exact ⟨rfl, HB6.out⟩
  | true =>
    have hE : E = 0 := by rw [← HSE.out.2]; unfold prE; rw [hok]; rfl
    have hS : S = prnB v := by rw [← HSE.out.1]; unfold prS; rw [hok]; rfl
    subst hE
    have HOK := Lib.hid (And.intro hok hS)
    have hSz : S.size ≤ 9223372036854775807 := by rw [hS]; have := prnB_size hok; omega
    have HZ := Lib.hid hSz
    clear hok hS hSz
    go_wp2_with fail
    refine (parse_any S HZ.out _ H5.out.1).mono ?_
    rintro e w6 ⟨A6, m6, c6, o6, er6, rfl, hP6, hR6, hm6, hb6⟩
    obtain ⟨e1, rfl⟩ := hP6.same (.inl ⟨rfl, HOK.out.1, HOK.out.2⟩)
    have hb6' := below_then H5.out.2 hb6
    have hsi := sameInts_any A A6 n m6 c c6 _ _ v o6 w6 (H.out.1.below hb6') hR6 H.out.2.1 hm6
    rw [show decide (v = o6) = true from decide_eq_true e1.symm] at hsi
    have H6 := Lib.hid (And.intro (H5.out.1.next hb6) (And.intro hb6' hsi))
    clear hP6 hR6 hm6 hb6 hb6' hsi e1
    go_wp2_with fail
    refine H6.out.2.2.mono ?_
    rintro e w7 ⟨rfl, q7, rfl⟩
    have H7 := Lib.hid (And.intro (H6.out.1.next (below_drewN (Below.refl _ _) q7)) (below_drewN H6.out.2.1 q7))
    go_wp2_with fail
    refine (texts_any _ H7.out.1).mono ?_
    rintro e w8 ⟨rfl, hb8⟩
    have HB8 := Lib.hid (below_then H7.out.2 hb8)
    clear hb8
    go_wp2_with fail
    go_ret
    exact ⟨rfl, HB8.out⟩
end Go.Proofs.YtahgamjfglcenaaDoor
