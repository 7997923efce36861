/- What Set of a wheel does whatever its arguments; what Tick returns, kept; the law's awake. Conditions: a wheel in memory. -/
import Derived.Test.YtfojempmgonahaaWhTick
import Derived.Test.YtfojempmgonahaaGSame
set_option linter.unusedVariables false
set_option linter.unusedSimpArgs false
set_option maxRecDepth 100000
namespace Go.Proofs.Ytfojempmgonahaa.Wh
open Go Go.RowKit Go.Maps
section
variable {w w' : World} {p bm dm : Nat} {now : Int} {L : List Tm} {G : List (Int × Nat)}
set_option maxHeartbeats 1000000 in
theorem set_any (h : WheelW w p bm dm now L G) (hn : now ≤ 1000000) {x n : Int} (hx : (Lit.int .i64 x).wf = true) :
    Calls Try.prog 11 #[.pointer (some ⟨p, 0, none⟩), .int .i64 x, .int .i64 n] w (Ends (.int .i64 (setR x n now L).1) p bm dm now (setR x n now L).2 G w) := by
  unfold setR
  split
  · rename_i hbad
    have HE := Lib.hid (show Ends (.int .i64 1) p bm dm now L G w (.returned (.int .i64 1)) w from ⟨rfl, G, h, Turn.refl _ _⟩)
    have HG := Lib.hid (show Calls _ _ _ _ _ from given_any h.row)
    clear h hn hx
    by_cases h1 : n < 1
    · clear hbad
      go_enter Try.func11, Try.ntmps11
      go_wp2_with fail
      refine HG.out.mono ?_
      rintro e w1 ⟨rfl, rfl⟩
      go_wp2
      go_ret
      exact HE.out
    · have h2 : 1048576 < n := by omega
      clear hbad
      go_enter Try.func11, Try.ntmps11
      go_wp2_with fail
      refine HG.out.mono ?_
      rintro e w1 ⟨rfl, rfl⟩
      go_wp2
      go_ret
      exact HE.out
  · rename_i hok
    split
    · rename_i hfull
      have HE := Lib.hid (show Ends (.int .i64 2) p bm dm now L G w (.returned (.int .i64 2)) w from ⟨rfl, G, h, Turn.refl _ _⟩)
      have HG := Lib.hid (show Calls _ _ _ _ _ from given_any h.row)
      have c2 := h.c2
      have hl := h.row.lt
      have hlook := h.ends.look2 uE (zeroI w) hx
      have hlen := h.ends.len uE 3
      rw [show (endsE L).length = L.length by simp [endsE]] at hlen
      rw [val_ends, isId_ends, hfull.1] at hlook
      have hge : ((L.length : Nat) : Int) ≥ 4096 := by have := hfull.2; omega
      generalize endOf x L = en at *
      generalize ((L.length : Nat) : Int) = ln at *
      have h1 : ¬ n < 1 := by omega
      have h2 : ¬ 1048576 < n := by omega
      have h3 : ¬ ln < 4096 := by omega
      have h4 : (4096 : Int) ≤ ln := by omega
      clear h hn hfull hok hx hge
      go_enter Try.func11, Try.ntmps11
      go_wp2_with fail
      refine HG.out.mono ?_
      rintro e w1 ⟨rfl, rfl⟩
      go_wp2
      go_ret
      exact HE.out
    · rename_i hf
      exact set_do h hn hx (by omega) (by omega) hf
/-- A list that lies in memory, apart from a wheel's blocks. -/
structure Held (w : World) (F : Nat → Prop) (A : Option Addr) (n : Nat) (l : List Int) : Prop where
  reads : Reads w w.heap.size 1 A n (ints l)
  off : 0 < n → ∀ ad, A = some ad → ¬ F ad.block
theorem Held.turn {F F' : Nat → Prop} {A : Option Addr} {n : Nat} {l : List Int} (h : Held w F A n l) (T : Turn F w F' w') : Held w' F' A n l := by
  refine ⟨⟨h.reads.1, fun hn => ?_⟩, fun hn ad hA hF => ?_⟩
  · obtain ⟨ad, rfl, hb, hc⟩ := h.reads.2 hn
    exact ⟨ad, rfl, Nat.lt_of_lt_of_le hb T.size, fun j u hu => (World.cell?_of_block (T.block _ (by rw [block_of_add]; exact hb) (by rw [block_of_add]; exact h.off hn ad rfl))).trans (hc j u hu)⟩
  · obtain ⟨ad', hA', hb, _⟩ := h.reads.2 hn
    rw [hA] at hA'
    injection hA' with hA'
    subst hA'
    exact (T.foot _ hF).elim (h.off hn ad hA) (by omega)
theorem Held.below {F : Nat → Prop} {A : Option Addr} {n : Nat} {l : List Int} (h : Held w F A n l) (hb : Below w.heap.size w w') : Held w' F A n l :=
  ⟨(h.reads.below hb).more hb.size, h.off⟩
def TickP (p bm dm : Nat) (now : Int) (L : List Tm) (G : List (Int × Nat)) (w : World) (e : Ending) (w' : World) : Prop :=
  ∃ A n c G', e = .returned (.slice A n c) ∧ n = (outs (now + 1) L).length ∧ Held w' (Foot p bm dm G') A n (outs (now + 1) L) ∧ n ≤ c ∧ c ≤ maxLen ∧
    WheelW w' p bm dm (now + 1) (rest (now + 1) L) G' ∧ Turn (Foot p bm dm G) w (Foot p bm dm G') w'
theorem tick_held (h : WheelW w p bm dm now L G) (hn : now ≤ 1000000) :
    Calls Try.prog 18 #[.pointer (some ⟨p, 0, none⟩)] w (TickP p bm dm now L G w) := by
  refine (tick_any h hn).mono ?_
  rintro e w1 ⟨A, c, G', rfl, hr, hnew, h1, h2, hw, hsub, T⟩
  refine ⟨A, _, c, G', rfl, rfl, ⟨hr, fun _ ad hA hF => ?_⟩, h1, h2, hw, T⟩
  have h3 := hnew ad hA
  have : Foot p bm dm G ad.block := by
    rcases hF with h | h | h | ⟨q, hq, e⟩
    · exact .inl h
    · exact .inr (.inl h)
    · exact .inr (.inr (.inl h))
    · exact .inr (.inr (.inr ⟨q, hsub q hq, e⟩))
  have := h.lt _ this
  omega
end
theorem wfn (x : Int) (h : -1000000 ≤ x ∧ x ≤ 1000000) : (Lit.int .i64 x).wf = true := by
  rw [Lit.wf_int_iff]
  have h1 : IntKind.i64.min = -9223372036854775808 := by decide
  have h2 : IntKind.i64.max = 9223372036854775807 := by decide
  omega
set_option maxHeartbeats 4000000 in
theorem awake_any (w : World) : Calls Try.prog 20 #[] w (Gives (.bool true) w) := by
  have H0 := Lib.hid (wnew_any w)
  go_enter Try.func20, Try.ntmps20
  go_wp2_with fail
  refine H0.out.mono ?_
  rintro e w1 ⟨p, bm, dm, rfl, h1, hF, hB⟩
  have S1 := set_any h1 (by omega) (x := 5) (n := 2) (wfn 5 (by omega))
  rw [show setR 5 2 0 [] = (0, [(5, 2)]) by decide] at S1
  have HS1 := Lib.hid S1
  have HF := Lib.hid hF
  have HB := Lib.hid hB
  clear S1 h1 hF hB
  go_wp2_with fail
  refine HS1.out.mono ?_
  rintro e w2 ⟨rfl, G2, h2, T2⟩
  have S2 := set_any h2 (by omega) (x := 3) (n := 1) (wfn 3 (by omega))
  rw [show setR 3 1 0 [(5, 2)] = (0, [(3, 1), (5, 2)]) by decide] at S2
  have HS2 := Lib.hid S2
  have HT2 := Lib.hid T2
  clear S2 h2 T2
  go_wp2_with fail
  refine HS2.out.mono ?_
  rintro e w3 ⟨rfl, G3, h3, T3⟩
  have HT3 := Lib.hid (HT2.out.trans T3)
  have HL := Lib.hid (len_any h3)
  have S3 := tick_held h3 (by omega)
  unfold TickP at S3
  rw [show outs (0 + 1) [(3, 1), (5, 2)] = [3] by decide, show rest (0 + 1) [(3, 1), (5, 2)] = [(5, 2)] by decide] at S3
  have HS3 := Lib.hid S3
  clear S3 h3 T3
  go_wp2_with fail
  refine HL.out.mono ?_
  rintro e w4 ⟨rfl, rfl⟩
  go_wp2_with fail
  refine HS3.out.mono ?_
  rintro e w4 ⟨A4, n4, c4, G4, rfl, hn4, hh4, _, _, h4, T4⟩
  obtain rfl : n4 = 1 := hn4
  have HT4 := Lib.hid (HT3.out.trans T4)
  have S4 := tick_held h4 (by omega)
  unfold TickP at S4
  rw [show outs (0 + 1 + 1) [(5, 2)] = [5] by decide, show rest (0 + 1 + 1) [(5, 2)] = [] by decide] at S4
  have HS4 := Lib.hid S4
  have HH4 := Lib.hid hh4
  clear S4 h4 T4 hh4
  go_wp2_with fail
  refine HS4.out.mono ?_
  rintro e w5 ⟨A5, n5, c5, G5, rfl, hn5, hh5, _, _, h5, T5⟩
  obtain rfl : n5 = 1 := hn5
  have HT5 := Lib.hid (HT4.out.trans T5)
  have S5 := tick_held h5 (by omega)
  unfold TickP at S5
  rw [show outs (0 + 1 + 1 + 1) ([] : List Tm) = [] by decide, show rest (0 + 1 + 1 + 1) ([] : List Tm) = [] by decide] at S5
  have HS5 := Lib.hid S5
  have HH5 := Lib.hid hh5
  have HH4b := Lib.hid (HH4.out.turn T5)
  clear S5 h5 T5 hh5 HH4
  go_wp2_with fail
  refine HS5.out.mono ?_
  rintro e w6 ⟨A6, n6, c6, G6, rfl, hn6, hh6, _, _, h6, T6⟩
  obtain rfl : n6 = 0 := hn6
  have HH4 := Lib.hid (HH4b.out.turn T6)
  have HH5b := Lib.hid (HH5.out.turn T6)
  have HT6 := Lib.hid (HT5.out.trans T6)
  have hbW : Below w.heap.size w w6 := by
    have T := HT6.out.down HF.out HB.out.size
    exact HB.out.trans T
  have HBW := Lib.hid hbW
  clear h6 T6 hh6 hbW
  have HA : ∀ W, Below w6.heap.size w6 W → Hid (Calls Try.prog 17 #[.slice A4 1 c4, .slice (some ⟨W.heap.size, 0, none⟩) 1 1] (W.alloc (.cells #[.int .i64 3] 3)) (Says (.bool true) (W.alloc (.cells #[.int .i64 3] 3)))) := fun W hb => Lib.hid (by
    have h1 := (HH4.out.below (hb.trans ((Below.refl _ W).alloc (Nat.le_refl _) (.cells #[.int .i64 3] 3) |>.mono hb.size))).reads
    exact sameInts_any A4 (some ⟨W.heap.size, 0, none⟩) 1 1 c4 1 _ _ [3] [3] _ h1 (news_int W [3] (by simp)) (by decide) (by decide))
  have HC : ∀ W, Below w6.heap.size w6 W → Hid (Calls Try.prog 17 #[.slice A5 1 c5, .slice (some ⟨W.heap.size, 0, none⟩) 1 1] (W.alloc (.cells #[.int .i64 5] 3)) (Says (.bool true) (W.alloc (.cells #[.int .i64 5] 3)))) := fun W hb => Lib.hid (by
    have h1 := (HH5b.out.below (hb.trans ((Below.refl _ W).alloc (Nat.le_refl _) (.cells #[.int .i64 5] 3) |>.mono hb.size))).reads
    exact sameInts_any A5 (some ⟨W.heap.size, 0, none⟩) 1 1 c5 1 _ _ [5] [5] _ h1 (news_int W [5] (by simp)) (by decide) (by decide))
  go_wp2_with fail
  refine (HA w6 (Below.refl _ _)).out.mono ?_
  rintro e w7 ⟨rfl, q7, rfl⟩
  have hb7 : Below w6.heap.size w6 ((w6.alloc (.cells #[.int .i64 3] 3)).drewN q7) := below_drewN ((Below.refl _ w6).alloc (Nat.le_refl _) _) _
  generalize (w6.alloc (.cells #[.int .i64 3] 3)).drewN q7 = w7 at *
  have HB7 := Lib.hid hb7
  clear hb7
  go_wp2_with fail
  refine (HC w7 HB7.out).out.mono ?_
  rintro e w8 ⟨rfl, q8, rfl⟩
  have hb8 : Below w6.heap.size w6 ((w7.alloc (.cells #[.int .i64 5] 3)).drewN q8) := HB7.out.trans (below_drewN ((Below.refl _ w7).alloc HB7.out.size _) _)
  generalize (w7.alloc (.cells #[.int .i64 5] 3)).drewN q8 = w8 at *
  have HB8 := Lib.hid (HBW.out.trans (hb8.mono HBW.out.size))
  clear hb8
  go_wp2
  go_ret
  exact ⟨rfl, HB8.out⟩
end Go.Proofs.Ytfojempmgonahaa.Wh
