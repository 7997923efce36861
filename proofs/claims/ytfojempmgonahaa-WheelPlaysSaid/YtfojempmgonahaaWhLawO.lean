/- Each timer runs out once, at its tick. Conditions: the ticks read as a list. -/
import Derived.Test.YtfojempmgonahaaWhLawF
set_option linter.unusedVariables false
set_option linter.unusedSimpArgs false
set_option maxRecDepth 100000
namespace Go.Proofs.Ytfojempmgonahaa.Wh
open Go Go.RowKit Go.Maps
/-- Of the timers of the numbers from 0 on, those that run yet. -/
def live (f : Nat → Int) (k : Nat) (now : Int) : List Tm := (seqL f k).filter fun p => decide (now < p.2)
theorem live_outs (f : Nat → Int) (k : Nat) (now : Int) : outs (now + 1) (live f k now) = outs (now + 1) (seqL f k) := by
  unfold outs at_ live
  rw [List.filter_filter]
  congr 1
  refine List.filter_congr fun p _ => ?_
  by_cases h : p.2 = now + 1
  · have : now < p.2 := by omega
    simp [h]
    omega
  · simp [h]
theorem live_rest (f : Nat → Int) (k : Nat) (now : Int) : rest (now + 1) (live f k now) = live f k (now + 1) := by
  unfold rest live
  rw [List.filter_filter]
  refine List.filter_congr fun p _ => ?_
  rw [← Bool.decide_and]
  refine decide_eq_decide.2 ?_
  omega
theorem live_len (f : Nat → Int) (k : Nat) (now : Int) : (live f k now).length = (outs (now + 1) (seqL f k)).length + (live f k (now + 1)).length := by
  rw [← live_outs, ← live_rest]
  unfold outs at_ rest
  rw [List.length_map]
  generalize live f k now = L
  induction L with
  | nil => rfl
  | cons p r ih =>
    by_cases h : p.2 = now + 1
    · rw [List.filter_cons_of_pos (by simpa using h), List.filter_cons_of_neg (by simpa using h)]
      simp only [List.length_cons]
      omega
    · rw [List.filter_cons_of_neg (by simpa using h), List.filter_cons_of_pos (by simpa using h)]
      simp only [List.length_cons]
      omega
theorem outs_succ (f : Nat → Int) (k : Nat) (t : Int) : outs t (seqL f (k + 1)) = if f k = t then outs t (seqL f k) ++ [(k : Int)] else outs t (seqL f k) := by
  unfold outs at_
  rw [seqL_succ, List.filter_append, List.map_append]
  by_cases h : f k = t <;> simp [h]
theorem outs_pre (f : Nat → Int) (t : Int) {i k : Nat} (h : i ≤ k) : ∃ r, outs t (seqL f k) = outs t (seqL f i) ++ r := by
  induction k with
  | zero =>
    obtain rfl : i = 0 := by omega
    exact ⟨[], by simp⟩
  | succ k ih =>
    by_cases hk : i = k + 1
    · subst hk
      exact ⟨[], by simp⟩
    · obtain ⟨r, hr⟩ := ih (by omega)
      rw [outs_succ]
      split
      · exact ⟨r ++ [(k : Int)], by rw [hr, List.append_assoc]⟩
      · exact ⟨r, hr⟩
theorem outs_at (f : Nat → Int) {t : Int} {i k : Nat} (h : i < k) (hf : f i = t) : (outs t (seqL f i)).length < (outs t (seqL f k)).length ∧ (outs t (seqL f k)).getD (outs t (seqL f i)).length 0 = (i : Int) := by
  obtain ⟨r, hr⟩ := outs_pre f t (show i + 1 ≤ k from h)
  rw [outs_succ, if_pos hf] at hr
  rw [hr]
  refine ⟨by simp, ?_⟩
  rw [List.getD_eq_getElem?_getD, List.append_assoc, List.getElem?_append_right (Nat.le_refl _)]
  simp
theorem live_set (f : Nat → Int) {k : Nat} {n now : Int} (h1 : 1 ≤ n) (h2 : n ≤ 1000) (hk : k < 4096) (hf : f k = now + n) : setR (k : Int) n now (live f k now) = (0, live f (k + 1) now) := by
  have hno : has (k : Int) (live f k now) = false := by
    rw [Bool.eq_false_iff, Ne, has_iff]
    rintro ⟨p, hp, e⟩
    obtain ⟨i, hi, rfl⟩ := mem_seqL.1 (List.mem_filter.1 hp).1
    simp only at e
    omega
  have hl : (live f k now).length ≤ k := by
    have := List.length_filter_le (fun p : Tm => decide (now < p.2)) (seqL f k)
    rw [seqL_len] at this
    exact this
  unfold setR
  rw [if_neg (by omega), if_neg (fun h => by have := h.2; omega), off_self hno, ins_last (fun p hp => by obtain ⟨i, hi, rfl⟩ := mem_seqL.1 (List.mem_filter.1 hp).1; show (i : Int) < k; omega)]
  unfold live
  rw [seqL_succ, List.filter_append, hf]
  have : now < now + n := by omega
  simp [this]
theorem live_end (f : Nat → Int) (k : Nat) (now : Int) (h : ∀ i, i < k → f i ≤ now) : live f k now = [] := by
  unfold live
  rw [List.filter_eq_nil_iff]
  intro p hp
  obtain ⟨i, hi, rfl⟩ := mem_seqL.1 hp
  have := h i hi
  simp only [decide_eq_true_eq]
  omega
theorem live_start (f : Nat → Int) (k : Nat) (now : Int) (h : ∀ i, i < k → now < f i) : live f k now = seqL f k := by
  unfold live
  rw [List.filter_eq_self]
  intro p hp
  obtain ⟨i, hi, rfl⟩ := mem_seqL.1 hp
  exact decide_eq_true (h i hi)
set_option maxHeartbeats 16000000 in
theorem once_walk (l : List Int) {w : World} {B n c : Nat} {A : Option Addr} (hR : Reads w B 1 A n (ints l)) (hB : B ≤ w.heap.size) (hn63 : n ≤ 9223372036854775807) :
    Calls Try.prog 4 #[.slice A n c] w (Gives (.bool true) w) := by
  have H0 := Lib.hid (wnew_any w)
  obtain ⟨f, hf⟩ : ∃ f : Nat → Int, f = fun i => 1 + l.getD i 0 % 64 := ⟨_, rfl⟩
  have HF := Lib.hid (fun i => show f i = 1 + l.getD i 0 % 64 by rw [hf])
  have HB1 := Lib.hid (fun i => show 1 ≤ f i ∧ f i ≤ 64 from by
    have := Int.emod_nonneg (l.getD i 0) (show (64 : Int) ≠ 0 by decide)
    have := Int.emod_lt_of_pos (l.getD i 0) (show (0 : Int) < 64 by decide)
    rw [hf]
    simp only
    omega)
  have HRD := Lib.hid (fun w1 (hb : Below w.heap.size w w1) => hR.below (hb.mono hB))
  obtain ⟨N, hN⟩ : ∃ N : Nat, min n 100 = N := ⟨_, rfl⟩
  have hmz : min (n : Int) 100 = (N : Int) := by omega
  have hNn : N ≤ n := by omega
  have hN1 : N ≤ 100 := by omega
  clear hf hR hN
  go_enter Try.func4, Try.ntmps4
  go_wp2_with fail
  refine H0.out.mono ?_
  rintro e w1 ⟨p, bm, dm, rfl, h1, hFo, hBe⟩
  have HFo := Lib.hid hFo
  have HBe := Lib.hid hBe
  have HH1 := Lib.hid h1
  have HDN := Lib.hid (fun wr G (T : Turn (Foot p bm dm []) w1 (Foot p bm dm G) wr) => HBe.out.trans (T.down HFo.out HBe.out.size))
  clear h1 hFo hBe
  go_wp2_with fail
  go_loopw [5] (fun s wr => ∃ k : Nat, s = .int .i64 (k : Int) ∧ k ≤ N ∧ ∃ G, WheelW wr p bm dm 0 (live f k 0) G ∧ Turn (Foot p bm dm []) w1 (Foot p bm dm G) wr) (fun s _ => ((N : Int) - intOf s).toNat)
  case atStart => exact ⟨0, rfl, by omega, [], HH1.out, Turn.refl _ _⟩
  case round =>
    obtain ⟨k, rfl, hk, G4, h4, T4⟩ := hrel
    have HT4 := Lib.hid T4
    by_cases hlt : k < N
    · have hltz : (k : Int) < (N : Int) := by omega
      have hltn : (k : Int) < (n : Int) := by omega
      have hkw : (Lit.int .i64 (k : Int)).wf = true := wfn _ (by omega)
      have hfb := HB1.out k
      have S := set_any h4 (by omega) (x := (k : Int)) (n := f k) hkw
      rw [live_set f (by omega) (by omega) (by omega) (by omega)] at S
      have HS := Lib.hid S
      obtain ⟨ad, rfl, hab, hc⟩ := (HRD.out wr (HDN.out wr _ T4)).int_at (show k < n by omega)
      have hal : (ad.add k).block < wr.heap.size := by rw [block_of_add]; have := (HDN.out wr _ T4).size; omega
      have hfk := HF.out k
      generalize l.getD k 0 = x at *
      have ex := i64_and63 x
      generalize x % 64 = y at *
      rw [hfk] at HS hfb
      have wm : IntKind.i64.wrap (1 + y) = 1 + y := by rw [IntKind.wrap_i64]; omega
      clear S h4 T4 hab hfk
      go_wp2_with fail
      refine HS.out.mono ?_
      rintro e w5 ⟨rfl, G5, h5, T5⟩
      have H5 := Lib.hid h5
      have HT5 := Lib.hid (HT4.out.trans T5)
      clear h5 T5
      go_wp2
      exact ⟨⟨k + 1, by go_num, by omega, G5, H5.out, HT5.out⟩, by simp [intOf]; omega⟩
    · obtain rfl : k = N := by omega
      have hnl : ¬ (k : Int) < (k : Int) := by omega
      have H4 := Lib.hid h4
      have hll := Lib.hid (show (live f k 0).length = k by rw [live_start f k 0 (fun i _ => by have := HB1.out i; omega), seqL_len])
      clear h4 T4 HH1
      go_wp2_with fail
      obtain ⟨w4, hw4⟩ : ∃ w4, w4 = wr := ⟨_, rfl⟩
      subst hw4
      go_loopw [6, 7] (fun s6 s7 wr => ∃ t : Nat, s7 = .int .i64 ((t : Int) + 1) ∧ t ≤ 64 ∧ s6 = .int .i64 ((live f k (t : Int)).length : Int) ∧ ∃ G, WheelW wr p bm dm (t : Int) (live f k (t : Int)) G ∧ Turn (Foot p bm dm []) w1 (Foot p bm dm G) wr) (fun _ s7 _ => (65 - intOf s7).toNat)
      case atStart => exact ⟨0, rfl, by omega, by rw [show ((0 : Nat) : Int) = 0 from rfl, hll.out], G4, H4.out, HT4.out⟩
      case round =>
        obtain ⟨t, rfl, ht, rfl, G5, h5, T5⟩ := hrel
        have HT5 := Lib.hid T5
        have hlen5 := Nat.le_trans (List.length_filter_le (fun p : Tm => decide ((t : Int) < p.2)) (seqL f k)) (Nat.le_of_eq (seqL_len f k))
        have hlen6 : (live f k (t : Int)).length ≤ 100 := Nat.le_trans hlen5 hN1
        clear hlen5
        by_cases htl : (t : Int) + 1 ≤ 64
        · have S := tick_held h5 (by omega)
          unfold TickP at S
          rw [live_outs, live_rest] at S
          have hsplit := live_len f k (t : Int)
          have HS := Lib.hid S
          clear S h5 T5
          go_wp2_with fail
          refine HS.out.mono ?_
          rintro e w6 ⟨A6, n6, c6, G6, rfl, hn6, hh6, hnc6, hcm6, h6, T6⟩
          obtain ⟨lo, hlo⟩ : ∃ lo, outs ((t : Int) + 1) (seqL f k) = lo := ⟨_, rfl⟩
          have HLO := Lib.hid hlo
          rw [hlo] at hn6 hh6 hsplit
          have HN6 := Lib.hid hn6
          have H6 := Lib.hid h6
          have HT6 := Lib.hid (HT5.out.trans T6)
          have HH6 := Lib.hid hh6.reads
          have hsz : n6 ≤ 100 := by omega
          have hleft : IntKind.i64.wrap (((live f k (t : Int)).length : Int) - (n6 : Int)) = ((live f k ((t : Int) + 1)).length : Int) := by rw [IntKind.wrap_i64]; omega
          have HD6 := Lib.hid (HDN.out w6 _ HT6.out)
          have hlen7 := Lib.hid (len_any h6)
          have HLF := Lib.hid hleft
          clear h6 T6 hh6 hlo hn6 hsplit hleft
          go_wp2_with fail
          obtain ⟨w7, hw7⟩ : ∃ w7, w7 = w6 := ⟨_, rfl⟩
          subst hw7
          go_loopw [9, 10] (fun s9 s10 wr => ∃ i : Nat, s10 = .int .i64 (i : Int) ∧ i ≤ k ∧ s9 = .int .i64 ((outs ((t : Int) + 1) (seqL f i)).length : Int) ∧ wr = w7) (fun _ s10 _ => ((k : Int) - intOf s10).toNat)
          case atStart => exact ⟨0, rfl, by omega, rfl, rfl⟩
          case round =>
            obtain ⟨i, rfl, hi, rfl, hwr⟩ := hrel
            subst hwr
            by_cases hik : i < k
            · have hikz : (i : Int) < (k : Int) := by omega
              have hin : (i : Int) < (n : Int) := by omega
              obtain ⟨ad, rfl, hab, hc⟩ := (HRD.out _ HD6.out).int_at (show i < n by omega)
              have hal : (ad.add i).block < wr.heap.size := by rw [block_of_add]; have := HD6.out.size; omega
              have hfi := HF.out i
              have hfb := HB1.out i
              have hsu := outs_succ f i ((t : Int) + 1)
              by_cases hft : f i = (t : Int) + 1
              · obtain ⟨ha1, ha2⟩ := outs_at f hik hft
                rw [if_pos hft] at hsu
                rw [HLO.out] at ha1 ha2
                have hsu2 : ((outs ((t : Int) + 1) (seqL f (i + 1))).length : Int) = ((outs ((t : Int) + 1) (seqL f i)).length : Int) + 1 := by rw [hsu, List.length_append]; rfl
                have HSU := Lib.hid hsu2
                clear hsu hsu2
                generalize (outs ((t : Int) + 1) (seqL f i)).length = j at *
                have hj : j < n6 := by rw [HN6.out]; exact ha1
                obtain ⟨ad6, rfl, hab6, hc6⟩ := HH6.out.int_at hj
                rw [ha2] at hc6
                have hal6 : (ad6.add j).block < wr.heap.size := by rw [block_of_add]; omega
                have hjz : (j : Int) < (n6 : Int) := by omega
                generalize l.getD i 0 = x at *
                have ex := i64_and63 x
                generalize x % 64 = y at *
                have wm : IntKind.i64.wrap (1 + y) = (t : Int) + 1 := by rw [IntKind.wrap_i64]; omega
                have wj : j ≤ 100 := by omega
                clear ha1 ha2 hft hfi hfb hab hab6
                go_wp2
                exact ⟨⟨i + 1, by go_num, by omega, by rw [HSU.out], trivial⟩, by simp [intOf]; omega⟩
              · rw [if_neg hft] at hsu
                have HSU := Lib.hid (congrArg (fun l : List Int => (l.length : Int)) hsu)
                clear hsu
                generalize (outs ((t : Int) + 1) (seqL f i)).length = j at *
                generalize l.getD i 0 = x at *
                have ex := i64_and63 x
                generalize x % 64 = y at *
                have wm : IntKind.i64.wrap (1 + y) = 1 + y := by rw [IntKind.wrap_i64]; omega
                have hny : ¬ 1 + y = (t : Int) + 1 := by omega
                clear hft hfi hfb hab
                go_wp2
                exact ⟨⟨i + 1, by go_num, by omega, by rw [HSU.out], trivial⟩, by simp [intOf]; omega⟩
            · obtain rfl : i = k := by omega
              rw [HLO.out, ← HN6.out]
              have hnl2 : ¬ (i : Int) < (i : Int) := by omega
              have hlf := HLF.out
              have hll7 := hlen7.out
              obtain ⟨q, hq⟩ : ∃ q : Nat, (live f i ((t : Int) + 1)).length = q := ⟨_, rfl⟩
              rw [hq] at hlf hll7
              have HL7 := Lib.hid hll7
              clear hll7
              go_wp2_with fail
              refine HL7.out.mono ?_
              rintro e w8 ⟨rfl, rfl⟩
              go_wp2
              exact ⟨⟨t + 1, by rfl, by omega, by rw [← hq]; rfl, G6, H6.out, HT6.out⟩, by simp [intOf]; omega⟩
        · obtain rfl : t = 64 := by omega
          have HA := Lib.hid (awake_any wr)
          have hz : (live f k ((64 : Nat) : Int)).length = 0 := by rw [live_end f k ((64 : Nat) : Int) (fun i _ => (HB1.out i).2)]; rfl
          rw [hz]
          clear h5 T5 hz
          go_wp2_with fail
          refine HA.out.mono ?_
          rintro e w8 ⟨rfl, h8⟩
          have hfin := HDN.out wr _ HT5.out
          go_wp2
          go_ret
          exact ⟨rfl, hfin.trans (h8.mono hfin.size)⟩
end Go.Proofs.Ytfojempmgonahaa.Wh
