/- pdqsort_func of package sort, whole: a row of what was found is sorted between two places. Conditions: the row as SortA says; what stands ahead of the first place is ahead of all. -/
import Derived.Test.YtahgamjfglcenaaSortI
set_option linter.unusedVariables false
set_option linter.unusedSimpArgs false
namespace Go.Proofs.Ytahgamjfglcenaa
open Go Go.RowKit
/-- Between a and b the row is sorted; nothing else that was there has changed. -/
def Srt (c0 blk n cap a b : Nat) (d : Array Hit) (W : World) (e : Ending) (w' : World) : Prop :=
  e = .returned (.tuple #[]) ∧ ∃ d', Sort.PermIn a b d d' ∧ Sort.SortedIn hlt a b d' ∧ St c0 blk n cap d' w' ∧ W.grownBy w' (some blk)
/-- Whatever sorts this part sorts the whole. -/
def Goes (a b a' b' : Nat) (d dk : Array Hit) : Prop := ∀ R, Sort.PermIn a' b' dk R → Sort.SortedIn hlt a' b' R → Sort.PermIn a b d R ∧ Sort.SortedIn hlt a b R
theorem Goes.perm {a b a' b' : Nat} {d dk dj : Array Hit} (h : Goes a b a' b' d dk) (hp : Sort.PermIn a' b' dk dj) : Goes a b a' b' d dj := fun R h1 h2 => h R (Sort.permIn_trans _ _ _ _ _ hp h1) h2
theorem At.srt {c0 blk n cap b0 a b a' b' : Nat} {sb : Array Value} {W0 W : World} {d dk dj : Array Hit} (hA : At c0 blk n cap sb b0 W0 dj W) (hG : Goes a b a' b' d dk) (h1 : Sort.PermIn a' b' dk dj) (h2 : Sort.SortedIn hlt a' b' dj) :
    ∃ d', Sort.PermIn a b d d' ∧ Sort.SortedIn hlt a b d' ∧ St c0 blk n cap d' W ∧ W0.grownBy W (some blk) := ⟨dj, (hG dj h1 h2).1, (hG dj h1 h2).2, hA.st, hA.since⟩
set_option maxHeartbeats 64000000 in
set_option maxRecDepth 1000000 in
theorem pdq_any {c0 blk n cap : Nat} {sb : Array Value} (E : Env blk n sb) : ∀ (N a b lim : Nat) (d : Array Hit) (W : World), b - a < N → St c0 blk n cap d W → a ≤ b → b ≤ n → Sort.Below hlt a b d → lim ≤ 1000000 →
    Calls Try.prog 35 #[.agg #[lessV c0, swapV sb], .int .i64 a, .int .i64 b, .int .i64 lim] W (Srt c0 blk n cap a b d W) := by
  intro N
  induction N with
  | zero => intro _ _ _ _ _ h; exact absurd h (Nat.not_lt_zero _)
  | succ N ih =>
    intro a b lim d W hN hS hab hb hBel hlim
    have hn := E.hn
    have h0 := At.start (sb := sb) hS
    have HE := Lib.hid E
    have IH := Lib.hid ih
    clear hS E ih
    go_enter Try.func35, Try.ntmps35
    go_wp2_with fail
    go_loopg [1, 2, 3, 8, 9] (b - a) (fun gx s1 s2 s3 s8 s9 wr => ∃ (a' b' l' : Nat) (wb wp : Bool) (dk : Array Hit), s1 = .int .i64 a' ∧ s2 = .int .i64 b' ∧ s3 = .int .i64 l' ∧ s8 = .bool wb ∧ s9 = .bool wp ∧
      a' ≤ b' ∧ b' ≤ n ∧ b' - a' ≤ gx ∧ b' - a' ≤ N ∧ l' ≤ 1000000 ∧ At c0 blk n cap sb W.heap.size W dk wr ∧ Hid (Sort.Below hlt a' b' dk) ∧ Hid (Goes a b a' b' d dk))
    case atStart => exact ⟨a, b, lim, true, true, d, rfl, rfl, rfl, rfl, rfl, hab, hb, Nat.le_refl _, by omega, hlim, h0, Lib.hid hBel, Lib.hid (fun R h1 h2 => ⟨h1, h2⟩)⟩
    case round =>
      obtain ⟨a', b', l', wb, wp, dk, rfl, rfl, rfl, rfl, rfl, hab', hb', hgx, hN', hl', hA, HB, HG⟩ := hrel
      clear h0 hBel
      have hsz := hA.st.size
      have k0 := hA.cell0
      have k1 := hA.cell1
      by_cases h12 : b' - a' ≤ 12
      · have h12z : (b' : Int) - (a' : Int) ≤ 12 := by omega
        have hc := insertion_any HE.out a' b' dk wr hA.st hab' hb'
        have hh := Sort.insertionSort_holds hlt_swo dk a' b' hab' (by omega)
        have HC := Lib.hid hc
        have HH := Lib.hid hh
        have HA := Lib.hid hA
        clear hc hh hA hsz
        go_wp2_with fail
        refine HC.out.mono ?_
        rintro e w1 ⟨rfl, hS1, hg1⟩
        have HF := Lib.hid ((HA.out.step hS1 hg1).srt HG.out HH.out.1 HH.out.2)
        clear hS1 hg1
        go_wp2_with fail
        go_end0
        exact ⟨rfl, HF.out⟩
      · have h12z : ¬ (b' : Int) - (a' : Int) ≤ 12 := by omega
        by_cases hl0 : l' = 0
        · subst hl0
          obtain ⟨m, rfl⟩ : ∃ m, b' = a' + m := ⟨b' - a', by omega⟩
          have hc := heap_any HE.out a' m dk wr hA.st hb'
          have hh := Sort.heapSort_holds hlt_swo dk a' (a' + m) hab' (by omega)
          have HC := Lib.hid hc
          have HH := Lib.hid hh
          have HA := Lib.hid hA
          clear hc hh hA hsz
          go_wp2_with fail
          refine HC.out.mono ?_
          rintro e w1 ⟨rfl, hS1, hg1⟩
          have HF := Lib.hid ((HA.out.step hS1 hg1).srt HG.out HH.out.1 HH.out.2)
          clear hS1 hg1
          go_wp2_with fail
          go_end0
          exact ⟨rfl, HF.out⟩
        · have hl0z : ((l' : Int) == 0) = false := by rw [beq_eq_false_iff_ne]; omega
          have HA := Lib.hid hA
          have HSZ := Lib.hid hsz
          clear hA hsz
          go_upto_if 35 with fail
          go_cut [3] from 19 (fun s3 wc => ∃ (l2 : Nat) (d1 : Array Hit), s3 = .int .i64 l2 ∧ l2 ≤ 1000000 ∧ Hid (Sort.PermIn a' b' dk d1) ∧ At c0 blk n cap sb W.heap.size W d1 wc)
          case first =>
            cases wb with
            | false =>
              have hc := break_any HE.out a' b' dk wr HA.out.st hab' hb'
              have HC := Lib.hid hc
              clear hc
              go_wp2_with fail
              refine HC.out.mono ?_
              rintro e w1 ⟨rfl, d1, hp, hS1, hg1⟩
              have HP := Lib.hid hp
              have HA1 := Lib.hid (HA.out.step hS1 hg1)
              clear hp hS1 hg1
              go_wp2_with fail
              go_meet
              case rel => exact ⟨l' - 1, d1, by congr 1; omega, by omega, HP, HA1.out⟩
            | true =>
              go_wp2_with fail
              go_meet
              case rel => exact ⟨l', dk, rfl, hl', Lib.hid (Sort.permIn_refl _ _ _), HA.out⟩
          case rest =>
            obtain ⟨l2, d1, rfl, hl2, HP1, hA1⟩ := hcut
            clear k0 k1 hl0z hl0 HA
            have k0 := hA1.cell0
            have k1 := hA1.cell1
            have HG1 := Lib.hid (HG.out.perm HP1.out)
            have HB1 := Lib.hid (Sort.Below.perm HB.out (by rw [HSZ.out]; exact hb') HP1.out)
            have HSZ1 := Lib.hid hA1.st.size
            obtain ⟨m, hm⟩ : ∃ m, b' = a' + m := ⟨b' - a', by omega⟩
            have hc := pivot_any HE.out a' m d1 wc hA1.st (by omega) (by omega)
            rw [← hm] at hc
            have HC := Lib.hid hc
            have HA1 := Lib.hid hA1
            have HM := Lib.hid hm
            clear hc hA1 HG HB HP1 hm
            go_wp2_with fail
            refine HC.out.mono ?_
            rintro e w2 ⟨x, hnt, rfl, hx0, hh3, hb2⟩
            have hx : a' ≤ x ∧ x < b' := by rw [HM.out]; exact hx0
            clear hx0
            have hA2 := HA1.out.below hb2
            clear k0 k1 hb2
            have k0 := hA2.cell0
            have k1 := hA2.cell1
            have HA2 := Lib.hid hA2
            clear hA2 HC
            go_upto_if 50 with fail
            go_cut [11, 12] from 19 (fun s11 s12 wc => ∃ (pv : Nat) (h2 : Int) (d2 : Array Hit), s11 = .int .i64 pv ∧ s12 = .int .i64 h2 ∧ (a' ≤ pv ∧ pv < b') ∧ Hid (Sort.PermIn a' b' d1 d2) ∧ At c0 blk n cap sb W.heap.size W d2 wc)
            case first =>
              by_cases h2 : hnt = 2
              · subst h2
                have hc := reverse_any HE.out a' b' d1 w2 HA2.out.st hab' hb'
                have HC := Lib.hid hc
                clear hc
                go_wp2_with fail
                refine HC.out.mono ?_
                rintro e w3 ⟨rfl, d2, hp, hS3, hg3⟩
                have HP := Lib.hid hp
                have HA3 := Lib.hid (HA2.out.step hS3 hg3)
                clear hp hS3 hg3
                go_wp2_with fail
                go_meet
                case rel => exact ⟨b' - 1 - (x - a'), 1, d2, by congr 1; omega, rfl, by omega, HP, HA3.out⟩
              · have h2z : (hnt == 2) = false := by rw [beq_eq_false_iff_ne]; exact h2
                go_wp2_with fail
                go_meet
                case rel => exact ⟨x, hnt, d1, rfl, rfl, by omega, Lib.hid (Sort.permIn_refl _ _ _), HA2.out⟩
            case rest =>
              obtain ⟨pv, h2, d2, rfl, rfl, hpv, HP2, hA3⟩ := hcut
              clear k0 k1 HA2 hh3
              have k0 := hA3.cell0
              have k1 := hA3.cell1
              have HG2 := Lib.hid (HG1.out.perm HP2.out)
              have HB2 := Lib.hid (Sort.Below.perm HB1.out (by rw [HSZ1.out]; exact hb') HP2.out)
              have HSZ2 := Lib.hid hA3.st.size
              have HA3 := Lib.hid hA3
              clear hA3 HG1 HB1 HP2 HA1
              go_upto_region 16 with fail
              go_cut [68] from 19 (fun s68 wx => ∃ t : Bool, s68 = .bool t ∧ wx = wc)
              case first =>
                cases wb <;> cases wp <;>
                  (go_wp2_with fail
                   go_meet
                   exact ⟨_, rfl, rfl⟩)
              case rest =>
                obtain ⟨t68, rfl, rfl⟩ := hcut
                go_upto_if 68 with fail
                go_cut [] from 19 (fun wx => ∃ d3 : Array Hit, Hid (Sort.PermIn a' b' d2 d3) ∧ At c0 blk n cap sb W.heap.size W d3 wx)
                case first =>
                  cases t68 with
                  | false =>
                    go_wp2_with fail
                    go_meet
                    case rel => exact ⟨d2, Lib.hid (Sort.permIn_refl _ _ _), HA3.out⟩
                  | true =>
                    have hc := partial_any HE.out a' b' d2 _ HA3.out.st (by omega) hb'
                    have hh := Sort.partialInsertionSort_holds hlt_swo d2 a' b' (by omega) (by rw [HSZ2.out]; exact hb') HB2.out
                    obtain ⟨d3, t3, hR⟩ : ∃ d3 t3, Sort.partialInsertionSort hlt d2 a' b' = (d3, t3) := ⟨_, _, rfl⟩
                    rw [hR] at hc hh
                    have HC := Lib.hid hc
                    have HH := Lib.hid hh
                    clear hc hh hR
                    cases t3 with
                    | true =>
                      go_wp2_with fail
                      refine HC.out.mono ?_
                      rintro e w4 ⟨rfl, hS4, hg4⟩
                      have HF := Lib.hid ((HA3.out.step hS4 hg4).srt HG2.out HH.out.1 (HH.out.2 (by trivial)))
                      clear hS4 hg4
                      go_wp2_with fail
                      go_end0
                      exact ⟨rfl, HF.out⟩
                    | false =>
                      go_wp2_with fail
                      refine HC.out.mono ?_
                      rintro e w4 ⟨rfl, hS4, hg4⟩
                      have HA4 := Lib.hid (HA3.out.step hS4 hg4)
                      clear hS4 hg4
                      go_wp2_with fail
                      go_meet
                      case rel => exact ⟨d3, Lib.hid HH.out.1, HA4.out⟩
                case rest =>
                  obtain ⟨d3, HP3, hA4⟩ := hcut
                  clear k0 k1 HA3
                  have k0 := hA4.cell0
                  have k1 := hA4.cell1
                  have HG3 := Lib.hid (HG2.out.perm HP3.out)
                  have HB3 := Lib.hid (Sort.Below.perm HB2.out (by rw [HSZ2.out]; exact hb') HP3.out)
                  have HSZ3 := Lib.hid hA4.st.size
                  have HA4 := Lib.hid hA4
                  clear hA4 HG2 HB2 HP3
                  go_upto_region 18 with fail
                  go_cut [83] from 19 (fun s83 wx => ∃ t : Bool, s83 = .bool t ∧ Hid (t = true → 0 < a' ∧ hlt d3[a' - 1]! d3[pv]! = false) ∧ At c0 blk n cap sb W.heap.size W d3 wx)
                  case first =>
                    rcases Nat.eq_zero_or_pos a' with ha0 | ha0
                    · have ha0z : ¬ (0 : Int) < (a' : Int) := by omega
                      clear ha0
                      go_wp2_with fail
                      go_meet
                      case rel => exact ⟨false, rfl, Lib.hid (fun h => by cases h), HA4.out⟩
                    · have ha0z : (0 : Int) < (a' : Int) := by omega
                      have hc := clo_any HA4.out.st (a' - 1) pv (by omega) (by omega) (by omega)
                      rw [show ((a' - 1 : Nat) : Int) = (a' : Int) - 1 by omega] at hc
                      cases hv : hlt d3[a' - 1]! d3[pv]! with
                      | true =>
                        rw [hv] at hc
                        have HC := Lib.hid hc
                        clear hc hv
                        go_wp2_with fail
                        refine HC.out.mono ?_
                        rintro e w5 ⟨rfl, hb5⟩
                        have HA5 := Lib.hid (HA4.out.below hb5)
                        clear hb5
                        go_wp2_with fail
                        go_meet
                        case rel => exact ⟨false, rfl, Lib.hid (fun h => by cases h), HA5.out⟩
                      | false =>
                        rw [hv] at hc
                        have HC := Lib.hid hc
                        have HV := Lib.hid hv
                        clear hc hv
                        go_wp2_with fail
                        refine HC.out.mono ?_
                        rintro e w5 ⟨rfl, hb5⟩
                        have HA5 := Lib.hid (HA4.out.below hb5)
                        clear hb5
                        go_wp2_with fail
                        go_meet
                        case rel => exact ⟨true, rfl, Lib.hid (fun _ => ⟨ha0, HV.out⟩), HA5.out⟩
                  case rest =>
                    obtain ⟨t83, rfl, HT, hA5⟩ := hcut
                    clear k0 k1 HA4
                    have k0 := hA5.cell0
                    have k1 := hA5.cell1
                    have HA5 := Lib.hid hA5
                    clear hA5
                    cases t83 with
                    | true =>
                      have hc := partEq_any HE.out a' b' pv d3 _ HA5.out.st hpv.1 hpv.2 hb'
                      obtain ⟨mid, d4, hx⟩ : ∃ mid d4, Sort.partitionEqual hlt d3 a' b' pv = (mid, d4) := ⟨_, _, rfl⟩
                      obtain ⟨r1, r2, r3, r4, r5⟩ := Sort.round_eq hlt_swo (Sort.partitionEqual_holds hlt) (HT.out rfl).1 hpv.1 hpv.2 (by rw [HSZ3.out]; exact hb') HB3.out (HT.out rfl).2 hx
                      rw [hx] at hc
                      have HC := Lib.hid hc
                      have HR4 := Lib.hid r4
                      have HR5 := Lib.hid (fun R h1 h2 => HG3.out R (r5 R h1 h2).1 (r5 R h1 h2).2)
                      clear hc hx r3 r4 r5
                      go_wp2_with fail
                      refine HC.out.mono ?_
                      rintro e w6 ⟨rfl, hS6, hg6⟩
                      have HA6 := Lib.hid (HA5.out.step hS6 hg6)
                      clear hS6 hg6
                      go_wp2_with fail
                      go_roundg (b' - mid)
                      case measure => omega
                      case rel => exact ⟨mid, b', l2, _, _, d4, rfl, rfl, rfl, rfl, rfl, r2, hb', Nat.le_refl _, by omega, hl2, HA6.out, HR4, HR5⟩
                    | false =>
                      have hc := part_any HE.out a' b' pv d3 _ HA5.out.st hpv.1 hpv.2 hb'
                      obtain ⟨mid, ap, d4, hx⟩ : ∃ mid ap d4, Sort.partition hlt d3 a' b' pv = (mid, ap, d4) := ⟨_, _, _, rfl⟩
                      obtain ⟨r1, r2, r3, r4, r5, r6, r7⟩ := Sort.round_part hlt_swo (Sort.partition_holds hlt) hpv.1 hpv.2 (by rw [HSZ3.out]; exact hb') HB3.out hx
                      rw [hx] at hc
                      have HC := Lib.hid hc
                      have HR4 := Lib.hid r4
                      have HR5 := Lib.hid r5
                      have HR6 := Lib.hid r6
                      have HR7 := Lib.hid r7
                      clear hc hx r3 r4 r5 r6 r7
                      go_wp2_with fail
                      refine HC.out.mono ?_
                      rintro e w6 ⟨rfl, hS6, hg6⟩
                      have hA6 := HA5.out.step hS6 hg6
                      clear k0 k1
                      have k0 := hA6.cell0
                      have k1 := hA6.cell1
                      have HA6 := Lib.hid hA6
                      clear hA6 hS6 hg6
                      by_cases h4 : mid - a' < b' - mid
                      · have h4z : (mid : Int) - (a' : Int) < (b' : Int) - (mid : Int) := by omega
                        have hih := IH.out a' mid l2 d4 w6 (by omega) HA6.out.st r1 (by omega) HR4.out hl2
                        have HIH := Lib.hid hih
                        clear hih
                        go_wp2_with fail
                        refine HIH.out.mono ?_
                        rintro e w7 ⟨rfl, d5, hp5, hs5, hS7, hg7⟩
                        have HA7 := Lib.hid (HA6.out.step hS7 hg7)
                        have h6 := HR6.out d5 hp5 hs5
                        have HB6 := Lib.hid h6.1
                        have HG6 := Lib.hid (fun R h1 h2 => HG3.out R (h6.2 R h1 h2).1 (h6.2 R h1 h2).2)
                        clear hp5 hs5 hS7 hg7 h6
                        go_wp2_with fail
                        go_roundg (b' - (mid + 1))
                        case measure => omega
                        case rel => exact ⟨mid + 1, b', l2, _, ap, d5, by go_num, rfl, rfl, rfl, rfl, by omega, hb', Nat.le_refl _, by omega, hl2, HA7.out, HB6, HG6⟩
                      · have h4z : ¬ (mid : Int) - (a' : Int) < (b' : Int) - (mid : Int) := by omega
                        have hih := IH.out (mid + 1) b' l2 d4 w6 (by omega) HA6.out.st (by omega) hb' HR5.out hl2
                        rw [show ((mid + 1 : Nat) : Int) = (mid : Int) + 1 by omega] at hih
                        have HIH := Lib.hid hih
                        clear hih
                        go_wp2_with fail
                        refine HIH.out.mono ?_
                        rintro e w7 ⟨rfl, d5, hp5, hs5, hS7, hg7⟩
                        have HA7 := Lib.hid (HA6.out.step hS7 hg7)
                        have h6 := HR7.out d5 hp5 hs5
                        have HB6 := Lib.hid h6.1
                        have HG6 := Lib.hid (fun R h1 h2 => HG3.out R (h6.2 R h1 h2).1 (h6.2 R h1 h2).2)
                        clear hp5 hs5 hS7 hg7 h6
                        go_wp2_with fail
                        go_roundg (mid - a')
                        case measure => omega
                        case rel => exact ⟨a', mid, l2, _, ap, d5, rfl, rfl, rfl, rfl, rfl, r1, by omega, Nat.le_refl _, by omega, hl2, HA7.out, HB6, HG6⟩
end Go.Proofs.Ytahgamjfglcenaa
