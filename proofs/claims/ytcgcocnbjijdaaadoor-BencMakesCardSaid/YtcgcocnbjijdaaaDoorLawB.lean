/- The walk of BencApart: it returns true. Conditions: Go's table of powers of ten lies as start-up lays it; the values read as trees. -/
import Derived.Test.YtcgcocnbjijdaaaDoorFltJ
import Derived.Test.YtcgcocnbjijdaaaDoorPar
set_option linter.unusedVariables false
set_option linter.unusedSimpArgs false
namespace Go.Proofs.YtcgcocnbjijdaaaDoor
open Go Go.RowKit

mutual
theorem szT_wt : ∀ (left : Nat) (t : T), szT left t < 1048576 → wt t ≤ szT left t
  | 0, t, h => by rw [szT_zero] at h; omega
  | left + 1, .mk k n s l, h => by
    rw [szT_succ] at h ⊢
    have := szL_wt left l _ h
    simp only [wt]
    omega
theorem szL_wt : ∀ (left : Nat) (l : List T) (n : Nat), szL left l n < 1048576 → n + wtL l ≤ szL left l n
  | left, [], n, _ => by rw [szL]; simp [wtL]
  | left, t :: ts, n, h => by
    rw [szL] at h ⊢
    split at h
    · rename_i hn
      rw [if_pos hn]
      have h1 := szL_wt left ts _ h
      have h2 := szT_wt left t (by omega)
      simp only [wtL]
      omega
    · omega
end
theorem small_wt {t : T} (h : smallT t = true) : wt t ≤ 100000 := by
  have h1 : szT 12 t < 8192 := by simpa [smallT] using h
  have := szT_wt 12 t (by omega)
  omega
/-- What Put tells. -/
def PutIs (t : T) (s : ByteArray) (x : Int) : Prop := if gdT t 0 [] = true then s = ⟨(enc t).toArray⟩ ∧ x = 0 else s = ⟨#[]⟩ ∧ FaultOf t x
theorem PutIs.good {t : T} {s : ByteArray} {x : Int} (h : PutIs t s x) (hx : x = 0) : gdT t 0 [] = true ∧ s = ⟨(enc t).toArray⟩ := by
  unfold PutIs at h
  split at h
  · rename_i hg
    exact ⟨hg, h.1⟩
  · exact absurd hx h.2.1
theorem PutIs.none_ {t : T} {s : ByteArray} {x : Int} (h : PutIs t s x) (hx : x ≠ 0) : s = ⟨#[]⟩ ∧ FaultOf t x := by
  unfold PutIs at h
  split at h
  · exact absurd h.2 hx
  · exact h
theorem bytes_ne {s s' : ByteArray} (h : ¬ s = s') : (s.toList == s'.toList) = false := by
  rw [beq_eq_false_iff_ne, Ne, Go.ByteArray.toList_eq, Go.ByteArray.toList_eq]
  intro e
  exact h (ByteArray.ext (Array.toList_inj.1 e))
def PutOut (t : T) (w : World) (e : Ending) (w' : World) : Prop := ∃ s x, e = .returned (.tuple #[.string s, .int .i64 x]) ∧ PutIs t s x ∧ Below w.heap.size w w'
theorem put_out (t : T) (v : Value) (w : World) (hRA : RdA (fun b => b < w.heap.size) w t v) (hs : smallT t = true) (hwf : wfT t = true) (hT : Tabs w w.heap.size) : Calls Tryd.prog 12 #[v] w (PutOut t w) := by
  refine (put_any t v w hRA (small_wt hs) hwf hT).mono ?_
  rintro e w' ⟨hb, h⟩
  split at h
  · rename_i hg
    exact ⟨_, 0, h, by unfold PutIs; rw [if_pos hg]; exact ⟨rfl, rfl⟩, hb⟩
  · rename_i hg
    obtain ⟨x, he, hx⟩ := h
    exact ⟨_, x, he, by unfold PutIs; rw [if_neg hg]; exact ⟨rfl, hx⟩, hb⟩
theorem apart_is {t u : T} {s s' : ByteArray} (h : PutIs t s 0) (h' : PutIs u s' 0) (h1 : wfT t = true) (h2 : wfT u = true) : decide (s = s') = sameT t u := by
  obtain ⟨g1, rfl⟩ := h.good rfl
  obtain ⟨g2, rfl⟩ := h'.good rfl
  obtain ⟨a1, a2, a3⟩ := gdT_iff.1 g1
  obtain ⟨b1, b2, b3⟩ := gdT_iff.1 g2
  rw [← enc_apart a1 h1 (by omega) (by simpa using a3) b1 h2 (by omega) (by simpa using b3)]
  congr 1
  simp
set_option maxRecDepth 100000 in
set_option maxHeartbeats 16000000 in
theorem bencApart_walk (t : T) (v : Value) (u : T) (v' : Value) (w : World) (ht : RdA (fun b => b < w.heap.size) w t v) (hwt : wfT t = true) (hu : RdA (fun b => b < w.heap.size) w u v') (hwu : wfT u = true) (hT : Tabs w w.heap.size) : Calls Tryd.prog 7 #[v, v'] w (Gives (.bool true) w) := by
  have hkt := ht
  have hku := hu
  obtain ⟨A, c, rfl, _⟩ := ht.rd
  obtain ⟨A', c', rfl, _⟩ := hu.rd
  obtain ⟨w0, hw0⟩ : ∃ w0, w0 = (w.alloc (.cells #[.int .i64 t.k, .int .i64 t.n, .string t.s, .slice A t.l.length c] 24)).alloc (.cells #[.int .i64 u.k, .int .i64 u.n, .string u.s, .slice A' u.l.length c'] 24) := ⟨_, rfl⟩
  have hb0 : Below w.heap.size w w0 := by
    subst hw0
    exact ((Below.refl _ _).alloc (Nat.le_refl _) _).alloc (by simp) _
  have hq1 : w0.heap[w.heap.size]? = some (.cells #[.int .i64 t.k, .int .i64 t.n, .string t.s, .slice A t.l.length c] 24 (0, 0)) := by
    subst hw0
    rw [Below.heap_alloc _ _ _ (by simp)]
    exact heap_alloc_new w _
  have hq2 : w0.heap[w.heap.size + 1]? = some (.cells #[.int .i64 u.k, .int .i64 u.n, .string u.s, .slice A' u.l.length c'] 24 (0, 0)) := by
    subst hw0
    have := heap_alloc_new (w.alloc (.cells #[.int .i64 t.k, .int .i64 t.n, .string t.s, .slice A t.l.length c] 24)) (.cells #[.int .i64 u.k, .int .i64 u.n, .string u.s, .slice A' u.l.length c'] 24)
    simpa using this
  have HQ1 := Lib.hid hq1
  have HQ2 := Lib.hid hq2
  have HT := Lib.hid hT
  have HKT := Lib.hid hkt
  have HKU := Lib.hid hku
  have HWT := Lib.hid hwt
  have HWU := Lib.hid hwu
  have HB0 := Lib.hid hb0
  have aw : ∀ w1 : World, Below w.heap.size w w1 → Calls Tryd.prog 11 #[] w1 (Gives (.bool true) w1) := fun w1 hb => awake_any w.heap.size _ (hT.on hb) hb.size
  have AW := Lib.hid aw
  clear hq1 hq2 hT hkt hku hwt hwu hb0 aw
  cases hs1 : smallT t with
  | false =>
    have HS1 := Lib.hid hs1
    clear hs1
    go_enter Tryd.func7, Tryd.ntmps7
    go_wp2_with fail
    rw [← hw0]
    refine (small_any t _ Tr w0 (HKT.out.any.next HB0.out)).mono ?_
    rintro e w1 ⟨rfl, hb1⟩
    rw [HS1.out]
    have hbw := below_then HB0.out hb1
    clear hb1
    go_wp2_with fail
    refine (AW.out _ hbw).mono ?_
    rintro e w2 ⟨rfl, hb2⟩
    go_wp2_with fail
    go_ret
    exact ⟨rfl, below_then hbw hb2⟩
  | true =>
    have HS1 := Lib.hid hs1
    clear hs1
    go_enter Tryd.func7, Tryd.ntmps7
    go_wp2_with fail
    rw [← hw0]
    refine (small_any t _ Tr w0 (HKT.out.any.next HB0.out)).mono ?_
    rintro e w1 ⟨rfl, hb1⟩
    rw [HS1.out]
    have hbw := below_then HB0.out hb1
    have q1 := Lib.hid (on_blk hb1 HQ1.out)
    have q2 := Lib.hid (on_blk hb1 HQ2.out)
    obtain ⟨e0, e1, e2, e3, ef⟩ := val_block q1.out
    obtain ⟨f0, f1, f2, f3, ff⟩ := val_block q2.out
    have l1 := blk_lt q1.out
    have l2 := blk_lt q2.out
    clear hb1
    cases hs2 : smallT u with
    | false =>
      have HS2 := Lib.hid hs2
      clear hs2
      go_wp2_with fail
      refine (small_any u _ Tr w1 (HKU.out.any.next hbw)).mono ?_
      rintro e w2 ⟨rfl, hb2⟩
      rw [HS2.out]
      have hbw2 := below_then hbw hb2
      clear hb2 hbw
      go_wp2_with fail
      refine (AW.out _ hbw2).mono ?_
      rintro e w3 ⟨rfl, hb3⟩
      go_wp2_with fail
      go_ret
      exact ⟨rfl, below_then hbw2 hb3⟩
    | true =>
      have HS2 := Lib.hid hs2
      clear hs2
      go_wp2_with fail
      refine (small_any u _ Tr w1 (HKU.out.any.next hbw)).mono ?_
      rintro e w2 ⟨rfl, hb2⟩
      rw [HS2.out]
      have hbw2 := below_then hbw hb2
      have q1 := Lib.hid (on_blk hb2 q1.out)
      have q2 := Lib.hid (on_blk hb2 q2.out)
      obtain ⟨e0, e1, e2, e3, ef⟩ := val_block q1.out
      obtain ⟨f0, f1, f2, f3, ff⟩ := val_block q2.out
      have l1 := blk_lt q1.out
      have l2 := blk_lt q2.out
      clear hb2
      go_wp2_with fail
      refine (put_out t _ w2 (RdA.on HKT.out hbw2) HS1.out HWT.out ((HT.out.on hbw2).up hbw2.size)).mono ?_
      rintro e w3 ⟨s, x, rfl, hp, hb3⟩
      have hbw3 := below_then hbw2 hb3
      have q1 := Lib.hid (on_blk hb3 q1.out)
      have q2 := Lib.hid (on_blk hb3 q2.out)
      obtain ⟨e0, e1, e2, e3, ef⟩ := val_block q1.out
      obtain ⟨f0, f1, f2, f3, ff⟩ := val_block q2.out
      have l1 := blk_lt q1.out
      have l2 := blk_lt q2.out
      have HP := Lib.hid hp
      clear hb3 hp
      go_wp2_with fail
      refine (put_out u _ w3 (RdA.on HKU.out hbw3) HS2.out HWU.out ((HT.out.on hbw3).up hbw3.size)).mono ?_
      rintro e w4 ⟨s', y, rfl, hp', hb4⟩
      have hbw4 := below_then hbw3 hb4
      have q1 := Lib.hid (on_blk hb4 q1.out)
      have q2 := Lib.hid (on_blk hb4 q2.out)
      obtain ⟨e0, e1, e2, e3, ef⟩ := val_block q1.out
      obtain ⟨f0, f1, f2, f3, ff⟩ := val_block q2.out
      have l1 := blk_lt q1.out
      have l2 := blk_lt q2.out
      have HP' := Lib.hid hp'
      clear hb4 hp' hbw hbw2 hbw3
      by_cases hx : x = 0
      · subst hx
        by_cases hy : y = 0
        · subst hy
          have hap := apart_is HP.out HP'.out HWT.out HWU.out
          have hsame := same_any t u _ _ Tr Tr w4 (HKT.out.any.next hbw4) (HKU.out.any.next hbw4)
          have HSM := Lib.hid hsame
          clear hsame
          generalize sameT t u = r at *
          cases r with
          | true =>
            have hss : s = s' := by simpa using hap
            subst hss
            clear hap
            go_wp2_with fail
            refine HSM.out.mono ?_
            rintro e w5 ⟨rfl, hb5⟩
            have hbw5 := below_then hbw4 hb5
            clear hb5
            go_wp2_with fail
            refine (AW.out _ hbw5).mono ?_
            rintro e w6 ⟨rfl, hb6⟩
            go_wp2_with fail
            go_ret
            exact ⟨rfl, below_then hbw5 hb6⟩
          | false =>
            have hss : (s.toList == s'.toList) = false := bytes_ne (by simpa using hap)
            clear hap
            go_wp2_with fail
            refine HSM.out.mono ?_
            rintro e w5 ⟨rfl, hb5⟩
            have hbw5 := below_then hbw4 hb5
            clear hb5
            go_wp2_with fail
            refine (AW.out _ hbw5).mono ?_
            rintro e w6 ⟨rfl, hb6⟩
            go_wp2_with fail
            go_ret
            exact ⟨rfl, below_then hbw5 hb6⟩
        · go_wp2_with fail
          refine (AW.out _ hbw4).mono ?_
          rintro e w5 ⟨rfl, hb5⟩
          go_wp2_with fail
          go_ret
          exact ⟨rfl, below_then hbw4 hb5⟩
      · go_wp2_with fail
        refine (AW.out _ hbw4).mono ?_
        rintro e w5 ⟨rfl, hb5⟩
        go_wp2_with fail
        go_ret
        exact ⟨rfl, below_then hbw4 hb5⟩
end Go.Proofs.YtcgcocnbjijdaaaDoor
