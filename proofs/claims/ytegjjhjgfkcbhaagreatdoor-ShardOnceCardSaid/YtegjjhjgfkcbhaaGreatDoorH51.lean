/- SOnce, COnce in one text. Conditions: as each part says. -/
import Derived.Test.YtegjjhjgfkcbhaaGreatDoorH50
import Derived.Test.YtegjjhjgfkcbhaaGreatDoorH45
import Derived.Test.YtegjjhjgfkcbhaaGreatDoorTie
import Derived.Test.YtegjjhjgfkcbhaaGreatDoorCards
import Derived.ProofKit
import Derived.ShutString
import Derived.OpenShut
import Derived.ChangeOld
import Derived.Lay
import Derived.Lib.LaidTab
import Derived.Stop.LaidErr
import Derived.SevenTiedAt
import Derived.SliceStrings
section
set_option linter.unusedVariables false
set_option linter.unusedSimpArgs false
set_option maxRecDepth 100000
namespace Go.Proofs.YtegjjhjgfkcbhaaGreatDoor
open Go Go.RowKit
def OnceSt (w0 : World) (x d n : Nat) (wr : World) : Prop := ∃ s Z R k, Side wr w0.heap.size Z x s d 1 R k (qNew 2) ∧ OnceI n R k ∧ Below w0.heap.size w0 wr
set_option maxHeartbeats 8000000 in
theorem shardOnce_walk (A0 : Option Addr) (len cap : Nat) (l : List Int) (kp : Int) (w : World) (hR : Reads w w.heap.size 1 A0 len (ints l)) (hlm : len ≤ maxLen) (hz : ∀ z ∈ l, Be.S64 z) (hkp : Be.S64 kp) (hT : Tab w w.heap.size) (hP : Tabs w w.heap.size) : Calls Tryz.prog 7 #[.slice A0 len cap, .int .i64 kp] w (Gives (.bool true) w) := by
  have HBE := Lib.hid (begun_any w hT hP)
  have HAW := Lib.hid (fun (w' : World) (hb : Below w.heap.size w w') => sawake_any (B := w.heap.size) w' (hT.on hb) (hP.on hb))
  have HR := Lib.hid hR
  have hb15 := i64_and15
  have hb1 := i64_and1'
  unfold maxLen at hlm
  clear hR hT hP
  go_enter Tryz.func7, Tryz.ntmps7
  go_wp2_with fail
  refine HBE.out.mono ?_
  rintro e w1 hpost
  unfold BegunPost at hpost
  obtain ⟨x, s, d, Z1, rfl, S1, hb1w⟩ := hpost
  have x1 := S1.row.cell (j := 1) (u := .pointer (some ⟨s, 0, none⟩)) rfl
  have xl := S1.row.lt
  have HS1 := Lib.hid S1
  have HB1 := Lib.hid hb1w
  have hfo : Calls Tryz.prog 15 #[.pointer (some ⟨s, 0, none⟩), .int .i64 1] w1 (EmptyPost w.heap.size s d 4000 0 Z1 2 2 1 0 w1) := by
    obtain ⟨Fd, Gd, Fk, Ft, lp, g, t, p, st, su, h, rfl⟩ := S1.sh
    have hk : (ks0 2).dm = 2 := rfl
    have hmay : (emptyR 2 2 1 0).May (ks0 2) := ⟨⟨by decide, by decide⟩, ⟨by decide, by decide⟩, ⟨by decide, by decide⟩, ⟨by omega, by omega⟩, by decide, Be.okq0⟩
    have hbl : (RK.bytes (emptyR 2 2 1 0)).length ≤ 32768 := recB_len (RK.May.ok hmay)
    refine found_ok h (by omega) 1 (by decide) rfl (by decide) ?_
    show (encs [(emptyR 2 2 1 0).bytes]).length ≤ 128 * hB 4000 1
    rw [encs_cons, List.length_append, enc_len]
    have : (encs []).length = 0 := rfl
    have : hB 4000 1 = 1999 := rfl
    omega
  have HFO := Lib.hid hfo
  clear S1 hb1w hfo HBE
  go_wp2_with fail
  refine HFO.out.mono ?_
  rintro e w2 ⟨rfl, Z2, hs2, hT2⟩
  have S2 : Side w2 w.heap.size Z2 x s d 1 aR0 aK0 (qNew 2) := ⟨hs2, HS1.out.row.keep (hT2.block _ HS1.out.row.lt HS1.out.nx), fun hz => by
    rcases hT2.foot x hz with h | h
    · exact HS1.out.nx h
    · have := HS1.out.row.lt
      omega, HS1.out.xB⟩
  have HB2 := Lib.hid (HB1.out.trans (hT2.down HS1.out.sh.far HS1.out.sh.tabs.1.le))
  have HST0 := Lib.hid (show OnceSt w x d 0 w2 from ⟨s, Z2, _, _, S2, once0, HB2.out⟩)
  clear HFO x1 xl hs2 hT2 S2 HS1 HB1 HB2
  go_wp2_with fail
  go_loopw [7] (fun i wr => ∃ n : Nat, i = .int .i64 (n : Int) ∧ n ≤ 30 ∧ n ≤ len ∧ OnceSt w x d n wr) (fun i _ => 30 - (intOf i).toNat)
  case atStart => exact ⟨0, rfl, by omega, by omega, HST0.out⟩
  case round =>
    clear HST0
    obtain ⟨n, rfl, hn30, hnl, s, Z3, R, k, S3, HO, hb3⟩ := hrel
    obtain ⟨w3, hw3⟩ : ∃ w3, w3 = wr := ⟨_, rfl⟩
    subst hw3
    by_cases hgo : n < len ∧ n < 30
    · obtain ⟨hlt, hlt30⟩ := hgo
      have hltz : (n : Int) < (len : Int) := by omega
      have hltz30 : (n : Int) < 30 := by omega
      obtain ⟨ad, rfl, hab, hc⟩ := HR.out.int_at hlt
      have hc3 := (hb3.cell (p := ad.add n) (by rw [block_of_add]; exact hab)).trans hc
      obtain ⟨v, hv⟩ : ∃ v, l.getD n 0 = v := ⟨_, rfl⟩
      rw [hv] at hc3
      have i1 : w3.cell? (ad.add n) = some (.int .i64 v) := hc3
      have il : (ad.add n).block < w3.heap.size := by rw [block_of_add]; exact Nat.lt_of_lt_of_le hab hb3.size
      have iZ : ¬ Z3 (ad.add n).block := fun hZ => by have := S3.sh.far _ hZ; rw [block_of_add] at this; omega
      have hwrap1 : IntKind.i64.wrap (2 * (n : Int)) = 2 * (n : Int) := by rw [IntKind.wrap_i64]; omega
      have hwrap2 : IntKind.i64.wrap (2 * (n : Int) + 2) = 2 * (n : Int) + 2 := by rw [IntKind.wrap_i64]; omega
      have hwrap3 : IntKind.i64.wrap (2 * (n : Int) + 1) = 2 * (n : Int) + 1 := by rw [IntKind.wrap_i64]; omega
      have hgood := S3.sh.good
      have hstep := HO.step hgood hlt30 (v % 16) [(n : Int), (n : Int)]
      have hm2 : Be.mayB 2 (2 * (n : Int) + 2) = true := may2 (by omega) (by omega) 2 (by omega)
      have hm1 : Be.mayB 2 (2 * (n : Int) + 1) = true := may2 (by omega) (by omega) 2 (by omega)
      have hf3 : (Be.findM k.q 2 (2 * (n : Int) + 2)).2 = 3 := find_new hm2 (by show k.q[2]!.s < _; rw [HO.last]; omega)
      have hfp := find_put hgood.tab hm2 hf3 (hasT (v % 16) k.T)
      have hfo2 : Be.findM (insK k 2 (2 * (n : Int) + 2) (v % 16, [(n : Int), (n : Int)])).q 2 (2 * (n : Int) + 1) = ((0, false), 90) := find_old hm1 (by have := hstep.last; show _ < (insK k 2 (2 * (n : Int) + 2) (v % 16, [(n : Int), (n : Int)])).q[2]!.s; rw [this]; omega)
      have hcon : ∀ (w5 : World) (A : Addr), Below w3.heap.size w3 w5 → Reads w5 w5.heap.size 1 (some A) 2 (ints [(n : Int), (n : Int)]) → w3.heap.size ≤ A.block → Calls Tryz.prog 16 #[.pointer (some ⟨s, 0, none⟩), .int .i64 2, .int .i64 (2 * (n : Int) + 2), .agg #[.int .i64 1, .int .i64 (v % 16), .slice (some A) 2 2, .int .i64 0]] w5 (WrP w.heap.size Z3 s d 1 (R ++ [RK.ins 2 (2 * (n : Int) + 2) (v % 16, [(n : Int), (n : Int)])]) (insK k 2 (2 * (n : Int) + 2) (v % 16, [(n : Int), (n : Int)])) 0 (hasT (v % 16) k.T) 0 w5) := fun w5 A hb hr hA =>
        wcon_put S3.sh HO.st 2 _ _ _ _ hm2 hf3 (by have := HO.few; omega) (by rw [HO.dm]; exact ckii n (by omega)) ⟨by omega, by omega⟩ (by rw [HO.vr]; omega) HO.np (by rw [HO.len]; omega) hb hr hA
      have HCON := Lib.hid hcon
      have HSTEP := Lib.hid (And.intro hstep (And.intro hm2 (And.intro hm1 hfo2)))
      have HFP : Hid (Be.findM (insK k 2 (2 * (n : Int) + 2) (v % 16, [(n : Int), (n : Int)])).q 2 (2 * (n : Int) + 2) = ((0, hasT (v % 16) k.T), 0)) := Lib.hid hfp
      have HB3 := Lib.hid hb3
      have HV := Lib.hid hv
      have HAB := Lib.hid hab
      have x1 := S3.row.cell (j := 1) (u := .pointer (some ⟨s, 0, none⟩)) rfl
      have xl := S3.row.lt
      clear hc hc3 hv hb3 hgood hstep hm2 hm1 hf3 hfp hfo2 hcon HO hab
      generalize hb0 : hasT (v % 16) k.T = b0 at *
      have HB0 := Lib.hid hb0
      clear hb0
      generalize hR1 : R ++ [RK.ins 2 (2 * (n : Int) + 2) (v % 16, [(n : Int), (n : Int)])] = R1 at *
      generalize hK1 : insK k 2 (2 * (n : Int) + 2) (v % 16, [(n : Int), (n : Int)]) = K1 at *
      clear hR1 hK1
      have HX3 := Lib.hid x1
      have HXl3 := Lib.hid xl
      have HZ3 := Lib.hid S3.nx
      have HL3 := Lib.hid S3.sh.lt
      have HBw3 := Lib.hid S3.sh.tabs.1.le
      have HW3 := Lib.hid (fun w5 A hb hr hA => HCON.out w5 A hb hr hA)
      have sS : ∀ w5, Below w3.heap.size w3 w5 → w5.cell? ⟨x, 1, none⟩ = some (.pointer (some ⟨s, 0, none⟩)) ∧ w5.cell? (ad.add n) = some (.int .i64 v) := fun w5 hb => ⟨sx_below x1 xl hb, (hb.cell il).trans i1⟩
      have HI3 := Lib.hid (And.intro i1 (And.intro il iZ))
      have HA3 := Lib.hid (fun (w5 : World) (A : Addr) (h : InsF w3.drew (n : Int) (n : Int) w5 A) => And.intro (sS w5 (insf1 h).1) (And.intro (HW3.out _ A (insf1 h).1 (insf1 h).2.1 (insf1 h).2.2) (HW3.out _ A (insf2 h).1 (insf2 h).2.1 (insf2 h).2.2)))
      have HC3 := Lib.hid (fun (w5 : World) (A : Addr) (h : InsF (w3.alloc (.cells #[.int .i64 0, .bool false, .slice none 0 0] 52)).drew (n : Int) (n : Int) w5 A) => And.intro (sS w5 (insf3 h).1) (HW3.out _ A (insf3 h).1 (insf3 h).2.1 (insf3 h).2.2))
      have HJ1 := Lib.hid (xins_p (v % 16) (n : Int) (n : Int) w3.drew)
      have HJ2 := Lib.hid (xins_p (v % 16) (n : Int) (n : Int) (w3.alloc (.cells #[.int .i64 0, .bool false, .slice none 0 0] 52)).drew)
      have HS3 := Lib.hid S3
      clear S3 sS
      go_upto_region 7 with fail
      go_cut [8, 9] from 43 to 61 (fun s3 s4 wc => ∃ y : Nat, s3 = .pointer (some ⟨y, 0, none⟩) ∧ s4 = .int .i64 0 ∧ Hid (AwB w3 w.heap.size Z3 s d 1 (R1) (K1) 0 b0 y wc))
      case first =>
        go_region_held3 (fun w' => w'.cell? ⟨x, 1, none⟩ = some (.pointer (some ⟨s, 0, none⟩)) ∧ w'.cell? (ad.add n) = some (.int .i64 v))
          (first | with_reducible exact ⟨x1, i1⟩ | with_reducible exact HS5.out | with_reducible exact HS6.out | go_keep)
          (first
            | (go_at_call 25; with_reducible refine HJ1.out.mono ?_; intro e w5 hpost; unfold InsP at hpost; obtain ⟨A, rfl, hi⟩ := hpost; have HII := Lib.hid hi; have HE := Lib.hid (HA3.out w5 A hi); have HS5 := Lib.hid HE.out.1; have x5 := HE.out.1.1; have i5 := HE.out.1.2; clear hi)
            | (go_at_call 25; with_reducible refine HJ2.out.mono ?_; intro e w5 hpost; unfold InsP at hpost; obtain ⟨A, rfl, hi⟩ := hpost; have HII := Lib.hid hi; have HE := Lib.hid (HC3.out w5 A hi); have HS5 := Lib.hid HE.out.1; have x5 := HE.out.1.1; have i5 := HE.out.1.2; clear hi)
            | (go_at_call 16; with_reducible refine HE.out.2.1.mono ?_; intro e w6 hpost; unfold WrP at hpost; obtain ⟨rfl, hp⟩ := hpost; have HP := Lib.hid (wr_end1 (er := 0) (was := b0) HII.out hp); have HS5 := Lib.hid (And.intro (wr_s1 HX3.out HXl3.out HZ3.out (insf1 HII.out).1 hp) (sc_s1 HI3.out.1 HI3.out.2.1 HI3.out.2.2 (insf1 HII.out).1 hp)); have HS6 := Lib.hid (And.intro (HP.out.sx HX3.out HXl3.out HZ3.out) (HP.out.sc HI3.out.1 HI3.out.2.1 HI3.out.2.2)); clear hp x5 i5)
            | (go_at_call 16; with_reducible refine HE.out.2.2.mono ?_; intro e w6 hpost; unfold WrP at hpost; obtain ⟨rfl, hp⟩ := hpost; have HP := Lib.hid (wr_end2 (er := 0) (was := b0) HL3.out HBw3.out HII.out hp); have HS5 := Lib.hid (And.intro (wr_s1 HX3.out HXl3.out HZ3.out (insf2 HII.out).1 hp) (sc_s1 HI3.out.1 HI3.out.2.1 HI3.out.2.2 (insf2 HII.out).1 hp)); have HS6 := Lib.hid (And.intro (HP.out.2.sx HX3.out HXl3.out HZ3.out) (HP.out.2.sc HI3.out.1 HI3.out.2.1 HI3.out.2.2)); have hob := HP.out.1; have o0 := hob.cell (j := 0) rfl; have o1 := hob.cell (j := 1) rfl; have o2 := hob.cell (j := 2) rfl; have of0 := hob.frozen 0; have of1 := hob.frozen 1; have of2 := hob.frozen 2; have ol := hob.lt; clear hp hob x5 i5)
            | (go_at_call 16; with_reducible refine HE.out.2.mono ?_; intro e w6 hpost; unfold WrP at hpost; obtain ⟨rfl, hp⟩ := hpost; have HP := Lib.hid (wr_end3 (er := 0) (was := b0) HL3.out HBw3.out HII.out hp); have HS5 := Lib.hid (And.intro (wr_s1 HX3.out HXl3.out HZ3.out (insf3 HII.out).1 hp) (sc_s1 HI3.out.1 HI3.out.2.1 HI3.out.2.2 (insf3 HII.out).1 hp)); have HS6 := Lib.hid (And.intro (HP.out.2.sx HX3.out HXl3.out HZ3.out) (HP.out.2.sc HI3.out.1 HI3.out.2.1 HI3.out.2.2)); have hob := HP.out.1; have o0 := hob.cell (j := 0) rfl; have o1 := hob.cell (j := 1) rfl; have o2 := hob.cell (j := 2) rfl; have of0 := hob.frozen 0; have of1 := hob.frozen 1; have of2 := hob.frozen 2; have ol := hob.lt; clear hp hob x5 i5))
        all_goals
          go_wp2_with fail
          go_meet
        · exact ⟨_, rfl, rfl, Lib.hid HP.out⟩
        · exact ⟨_, rfl, rfl, Lib.hid HP.out.2⟩
        · exact ⟨_, rfl, rfl, Lib.hid HP.out.2⟩
      case rest =>
      obtain ⟨w4, hw4⟩ : ∃ w4, w4 = wc := ⟨_, rfl⟩
      subst hw4
      obtain ⟨y8, rfl, rfl, HY8⟩ := hcut
      obtain ⟨Z4, S4, T4, hyz4⟩ := HY8.out.side HS3.out
      clear HW3 HA3 HC3 HJ1 HJ2 x1 xl i1 il iZ HI3
      have x1 := S4.row.cell (j := 1) (u := .pointer (some ⟨s, 0, none⟩)) rfl
      have xl := S4.row.lt
      have HB4 := Lib.hid (HB3.out.trans (T4.down HS3.out.sh.far HBw3.out))
      have hpt : Calls Tryz.prog 21 #[.pointer (some ⟨s, 0, none⟩)] w4 (PtsF K1.T w4) := by
        obtain ⟨Fd, Gd, Fk, Ft, lp, g, t, p, st, su, h, e⟩ := S4.sh
        exact spoints_any h HSTEP.out.1.st
      have HPT := Lib.hid hpt
      have HY := Lib.hid (And.intro HY8.out.row (And.intro hyz4 (And.intro HY8.out.new HXl3.out)))
      have HS4 := Lib.hid S4
      clear S4 T4 hyz4 hpt HS3 HX3 HXl3 HZ3 HL3 HBw3 HCON HY8
      go_wp2_with fail
      refine HPT.out.mono ?_
      rintro e w5 ⟨A5, n5, c5, l5, rfl, hp5, hn5, hl5, hb5, hf5, hg5⟩
      obtain ⟨P, hPd⟩ : ∃ P : Nat → Prop, P = fun b => b = y8 ∨ (w4.heap.size ≤ b ∧ b < w5.heap.size) := ⟨_, rfl⟩
      have S5 := HS4.out.under hb5
      have hPl : ∀ b, P b → b < w5.heap.size := fun b hb => by
        rw [hPd] at hb
        rcases hb with rfl | hb
        · exact Nat.lt_of_lt_of_le HY.out.1.lt hb5.size
        · exact hb.2
      have hPZ : Off P Z4 := fun b hb hZ => by
        rw [hPd] at hb
        rcases hb with rfl | hb
        · exact HY.out.2.1 hZ
        · have := HS4.out.sh.lt _ hZ
          omega
      have hPx : ¬ P x := fun hb => by
        rw [hPd] at hb
        have h1 := HY.out.2.2.1
        have h2 := HY.out.2.2.2
        have h3 := HS4.out.row.lt
        rcases hb with hb | hb
        · omega
        · omega
      have hP8 : P y8 := by rw [hPd]; exact .inl rfl
      have hPa : ∀ b, w4.heap.size ≤ b → b < w5.heap.size → P b := fun b h1 h2 => by rw [hPd]; exact .inr ⟨h1, h2⟩
      have hr5 := HY.out.1.keep (hb5.block _ HY.out.1.lt)
      have x5 : w5.cell? ⟨x, 1, none⟩ = some (.pointer (some ⟨s, 0, none⟩)) := sx_below x1 xl hb5
      have xl5 : x < w5.heap.size := Nat.lt_of_lt_of_le xl hb5.size
      have HB5 := Lib.hid (HB4.out.trans (hb5.mono (Nat.le_trans HB4.out.size (Nat.le_refl _))))
      have HP5 := Lib.hid (And.intro hp5 (And.intro hn5 (And.intro hl5 (And.intro hf5 hg5))))
      have HPP := Lib.hid (And.intro hPl (And.intro hPZ (And.intro hPx (And.intro hP8 hPa))))
      have HR5 := Lib.hid hr5
      have HFA := Lib.hid (fails_any S5 HSTEP.out.1.dm HSTEP.out.1.np kp kp hkp hkp)
      have HS5x := Lib.hid S5
      have hkb := hb1 kp
      clear hp5 hn5 hl5 hf5 hg5 hPl hPZ hPx hP8 hPa hPd hr5 S5 hb5 HPT x1 xl HY HS4
      go_upto_region 9 with fail
      go_cut [80] from 67 to 80 (fun s80 wc => s80 = .bool false ∧ Hid (OnceMid w5 w x d P R1 K1 wc))
      case first =>
        by_cases hk1 : kp % 2 = 1
        · go_wp2_with fail
          refine HFA.out.mono ?_
          intro e w6 hpost
          unfold FailsPost at hpost
          obtain ⟨rfl, s6, Z6, S6, T6⟩ := hpost
          have hm : OnceMid w5 w x d P R1 K1 w6 := OnceMid.mk' HPP.out.1 HPP.out.2.1 HPP.out.2.2.1 HS5x.out S6 T6 HB5.out
          have HM := Lib.hid hm
          clear hm S6 T6
          go_wp2_with fail
          go_meet
          exact ⟨rfl, HM⟩
        · have HM := Lib.hid (show OnceMid w5 w x d P R1 K1 w5 from ⟨s, Z4, HS5x.out, HPP.out.2.1, Turn.refl _ _, HB5.out⟩)
          go_wp2_with fail
          go_meet
          exact ⟨rfl, HM⟩
      case rest =>
      obtain ⟨w6, hw6⟩ : ∃ w6, w6 = wc := ⟨_, rfl⟩
      subst hw6
      obtain ⟨rfl, HM⟩ := hcut
      obtain ⟨s, Z6, S6, hO6, hT6, hb6⟩ := HM.out
      have HM6 := Lib.hid (And.intro hO6 (And.intro hT6 hb6))
      have hcon6 : ∀ (w5 : World) (A : Addr), Below w6.heap.size w6 w5 → Calls Tryz.prog 16 #[.pointer (some ⟨s, 0, none⟩), .int .i64 2, .int .i64 (2 * (n : Int) + 2), .agg #[.int .i64 1, .int .i64 99, .slice (some A) 2 2, .int .i64 0]] w5 (WrP w.heap.size Z6 s d 1 R1 K1 0 b0 0 w5) := fun w5 A hb =>
        wcon_had S6.sh HSTEP.out.1.st 2 (2 * (n : Int) + 2) 99 HSTEP.out.2.1 (0, b0) 0 HFP.out (by decide) (by decide) hb
      have HCON6 := Lib.hid hcon6
      have x1 := S6.row.cell (j := 1) (u := .pointer (some ⟨s, 0, none⟩)) rfl
      have xl := S6.row.lt
      clear hcon6 hO6 hT6 hb6 HM HFA HS5x x5 xl5
      go_wp2_with fail
      have HX6 := Lib.hid x1
      have HXl6 := Lib.hid xl
      have HZ6 := Lib.hid S6.nx
      have HL6 := Lib.hid S6.sh.lt
      have HBw6 := Lib.hid S6.sh.tabs.1.le
      have HW6 := Lib.hid (fun w5 A hb (hr : Reads w5 w5.heap.size 1 (some A) 2 (ints [9, 9])) (hA : w6.heap.size ≤ A.block) => HCON6.out w5 A hb)
      have sS : ∀ w5, Below w6.heap.size w6 w5 → w5.cell? ⟨x, 1, none⟩ = some (.pointer (some ⟨s, 0, none⟩)) := fun w5 hb => sx_below x1 xl hb
      have HA6 := Lib.hid (fun (w5 : World) (A : Addr) (h : InsF w6.drew 9 9 w5 A) => And.intro (sS w5 (insf1 h).1) (And.intro (HW6.out _ A (insf1 h).1 (insf1 h).2.1 (insf1 h).2.2) (HW6.out _ A (insf2 h).1 (insf2 h).2.1 (insf2 h).2.2)))
      have HC6 := Lib.hid (fun (w5 : World) (A : Addr) (h : InsF (w6.alloc (.cells #[.int .i64 0, .bool false, .slice none 0 0] 52)).drew 9 9 w5 A) => And.intro (sS w5 (insf3 h).1) (HW6.out _ A (insf3 h).1 (insf3 h).2.1 (insf3 h).2.2))
      have HJ1 := Lib.hid (xins_p (99) 9 9 w6.drew)
      have HJ2 := Lib.hid (xins_p (99) 9 9 (w6.alloc (.cells #[.int .i64 0, .bool false, .slice none 0 0] 52)).drew)
      have HS6 := Lib.hid S6
      clear S6 sS
      go_upto_region 11 with fail
      go_cut [11, 12] from 81 to 92 (fun s3 s4 wc => ∃ y : Nat, s3 = .pointer (some ⟨y, 0, none⟩) ∧ s4 = .int .i64 0 ∧ Hid (AwB w6 w.heap.size Z6 s d 1 (R1) (K1) 0 b0 y wc))
      case first =>
        go_region_held3 (fun w' => w'.cell? ⟨x, 1, none⟩ = some (.pointer (some ⟨s, 0, none⟩)))
          (first | with_reducible exact x1 | with_reducible exact HS5.out | with_reducible exact HS6.out | go_keep)
          (first
            | (go_at_call 25; with_reducible refine HJ1.out.mono ?_; intro e w5 hpost; unfold InsP at hpost; obtain ⟨A, rfl, hi⟩ := hpost; have HII := Lib.hid hi; have HE := Lib.hid (HA6.out w5 A hi); have HS5 := Lib.hid HE.out.1; have x5 := HE.out.1; clear hi)
            | (go_at_call 25; with_reducible refine HJ2.out.mono ?_; intro e w5 hpost; unfold InsP at hpost; obtain ⟨A, rfl, hi⟩ := hpost; have HII := Lib.hid hi; have HE := Lib.hid (HC6.out w5 A hi); have HS5 := Lib.hid HE.out.1; have x5 := HE.out.1; clear hi)
            | (go_at_call 16; with_reducible refine HE.out.2.1.mono ?_; intro e w6 hpost; unfold WrP at hpost; obtain ⟨rfl, hp⟩ := hpost; have HP := Lib.hid (wr_end1 (er := 0) (was := b0) HII.out hp); have HS5 := Lib.hid (wr_s1 HX6.out HXl6.out HZ6.out (insf1 HII.out).1 hp); have HS6 := Lib.hid (HP.out.sx HX6.out HXl6.out HZ6.out); clear hp x5)
            | (go_at_call 16; with_reducible refine HE.out.2.2.mono ?_; intro e w6 hpost; unfold WrP at hpost; obtain ⟨rfl, hp⟩ := hpost; have HP := Lib.hid (wr_end2 (er := 0) (was := b0) HL6.out HBw6.out HII.out hp); have HS5 := Lib.hid (wr_s1 HX6.out HXl6.out HZ6.out (insf2 HII.out).1 hp); have HS6 := Lib.hid (HP.out.2.sx HX6.out HXl6.out HZ6.out); have hob := HP.out.1; have o0 := hob.cell (j := 0) rfl; have o1 := hob.cell (j := 1) rfl; have o2 := hob.cell (j := 2) rfl; have of0 := hob.frozen 0; have of1 := hob.frozen 1; have of2 := hob.frozen 2; have ol := hob.lt; clear hp hob x5)
            | (go_at_call 16; with_reducible refine HE.out.2.mono ?_; intro e w6 hpost; unfold WrP at hpost; obtain ⟨rfl, hp⟩ := hpost; have HP := Lib.hid (wr_end3 (er := 0) (was := b0) HL6.out HBw6.out HII.out hp); have HS5 := Lib.hid (wr_s1 HX6.out HXl6.out HZ6.out (insf3 HII.out).1 hp); have HS6 := Lib.hid (HP.out.2.sx HX6.out HXl6.out HZ6.out); have hob := HP.out.1; have o0 := hob.cell (j := 0) rfl; have o1 := hob.cell (j := 1) rfl; have o2 := hob.cell (j := 2) rfl; have of0 := hob.frozen 0; have of1 := hob.frozen 1; have of2 := hob.frozen 2; have ol := hob.lt; clear hp hob x5))
        all_goals
          go_wp2_with fail
          go_meet
        · exact ⟨_, rfl, rfl, Lib.hid HP.out⟩
        · exact ⟨_, rfl, rfl, Lib.hid HP.out.2⟩
        · exact ⟨_, rfl, rfl, Lib.hid HP.out.2⟩
      case rest =>
      obtain ⟨w7, hw7⟩ : ∃ w7, w7 = wc := ⟨_, rfl⟩
      subst hw7
      obtain ⟨y11, rfl, rfl, HY11⟩ := hcut
      obtain ⟨Z7, S7, T7, hyz7⟩ := HY11.out.side HS6.out
      have HB7 := Lib.hid (HM6.out.2.2.trans (T7.down HS6.out.sh.far HBw6.out))
      have hO7 := HM6.out.1.turn T7 (fun b hb => Nat.lt_of_lt_of_le (HPP.out.1 b hb) HM6.out.2.1.size)
      have hT7 := HM6.out.2.1.trans (turn_off HM6.out.1 T7)
      have HM7 := Lib.hid (And.intro hO7 (And.intro hT7 (And.intro HY11.out.row hyz7)))
      have hcon7 : ∀ (w5 : World) (A : Addr), Below w7.heap.size w7 w5 → Calls Tryz.prog 16 #[.pointer (some ⟨s, 0, none⟩), .int .i64 2, .int .i64 (2 * (n : Int) + 1), .agg #[.int .i64 1, .int .i64 99, .slice (some A) 2 2, .int .i64 0]] w5 (WrP w.heap.size Z7 s d 1 R1 K1 0 false 90 w5) := fun w5 A hb =>
        wcon_had S7.sh HSTEP.out.1.st 2 (2 * (n : Int) + 1) 99 HSTEP.out.2.2.1 (0, false) 90 HSTEP.out.2.2.2 (by decide) (by decide) hb
      have HCON7 := Lib.hid hcon7
      clear HW6 HA6 HC6 HJ1 HJ2 x1 xl hO7 hT7 T7 hyz7 hcon7 HY11 HX6 HXl6 HZ6 HL6 HBw6 HCON6 HM6 HS6
      have x1 := S7.row.cell (j := 1) (u := .pointer (some ⟨s, 0, none⟩)) rfl
      have xl := S7.row.lt
      have HX7 := Lib.hid x1
      have HXl7 := Lib.hid xl
      have HZ7 := Lib.hid S7.nx
      have HL7 := Lib.hid S7.sh.lt
      have HBw7 := Lib.hid S7.sh.tabs.1.le
      have HW7 := Lib.hid (fun w5 A hb (hr : Reads w5 w5.heap.size 1 (some A) 2 (ints [9, 9])) (hA : w7.heap.size ≤ A.block) => HCON7.out w5 A hb)
      have sS : ∀ w5, Below w7.heap.size w7 w5 → w5.cell? ⟨x, 1, none⟩ = some (.pointer (some ⟨s, 0, none⟩)) := fun w5 hb => sx_below x1 xl hb
      have HA7 := Lib.hid (fun (w5 : World) (A : Addr) (h : InsF w7.drew 9 9 w5 A) => And.intro (sS w5 (insf1 h).1) (And.intro (HW7.out _ A (insf1 h).1 (insf1 h).2.1 (insf1 h).2.2) (HW7.out _ A (insf2 h).1 (insf2 h).2.1 (insf2 h).2.2)))
      have HC7 := Lib.hid (fun (w5 : World) (A : Addr) (h : InsF (w7.alloc (.cells #[.int .i64 0, .bool false, .slice none 0 0] 52)).drew 9 9 w5 A) => And.intro (sS w5 (insf3 h).1) (HW7.out _ A (insf3 h).1 (insf3 h).2.1 (insf3 h).2.2))
      have HJ1 := Lib.hid (xins_p (99) 9 9 w7.drew)
      have HJ2 := Lib.hid (xins_p (99) 9 9 (w7.alloc (.cells #[.int .i64 0, .bool false, .slice none 0 0] 52)).drew)
      have HS7 := Lib.hid S7
      clear S7 sS
      go_upto_region 12 with fail
      go_cut [13, 14] from 93 to 104 (fun s3 s4 wc => ∃ y : Nat, s3 = .pointer (some ⟨y, 0, none⟩) ∧ s4 = .int .i64 90 ∧ Hid (AwB w7 w.heap.size Z7 s d 1 (R1) (K1) 0 false y wc))
      case first =>
        go_region_held3 (fun w' => w'.cell? ⟨x, 1, none⟩ = some (.pointer (some ⟨s, 0, none⟩)))
          (first | with_reducible exact x1 | with_reducible exact HS5.out | with_reducible exact HS6.out | go_keep)
          (first
            | (go_at_call 25; with_reducible refine HJ1.out.mono ?_; intro e w5 hpost; unfold InsP at hpost; obtain ⟨A, rfl, hi⟩ := hpost; have HII := Lib.hid hi; have HE := Lib.hid (HA7.out w5 A hi); have HS5 := Lib.hid HE.out.1; have x5 := HE.out.1; clear hi)
            | (go_at_call 25; with_reducible refine HJ2.out.mono ?_; intro e w5 hpost; unfold InsP at hpost; obtain ⟨A, rfl, hi⟩ := hpost; have HII := Lib.hid hi; have HE := Lib.hid (HC7.out w5 A hi); have HS5 := Lib.hid HE.out.1; have x5 := HE.out.1; clear hi)
            | (go_at_call 16; with_reducible refine HE.out.2.1.mono ?_; intro e w6 hpost; unfold WrP at hpost; obtain ⟨rfl, hp⟩ := hpost; have HP := Lib.hid (wr_end1 (er := 0) (was := false) HII.out hp); have HS5 := Lib.hid (wr_s1 HX7.out HXl7.out HZ7.out (insf1 HII.out).1 hp); have HS6 := Lib.hid (HP.out.sx HX7.out HXl7.out HZ7.out); clear hp x5)
            | (go_at_call 16; with_reducible refine HE.out.2.2.mono ?_; intro e w6 hpost; unfold WrP at hpost; obtain ⟨rfl, hp⟩ := hpost; have HP := Lib.hid (wr_end2 (er := 0) (was := false) HL7.out HBw7.out HII.out hp); have HS5 := Lib.hid (wr_s1 HX7.out HXl7.out HZ7.out (insf2 HII.out).1 hp); have HS6 := Lib.hid (HP.out.2.sx HX7.out HXl7.out HZ7.out); have hob := HP.out.1; have o0 := hob.cell (j := 0) rfl; have o1 := hob.cell (j := 1) rfl; have o2 := hob.cell (j := 2) rfl; have of0 := hob.frozen 0; have of1 := hob.frozen 1; have of2 := hob.frozen 2; have ol := hob.lt; clear hp hob x5)
            | (go_at_call 16; with_reducible refine HE.out.2.mono ?_; intro e w6 hpost; unfold WrP at hpost; obtain ⟨rfl, hp⟩ := hpost; have HP := Lib.hid (wr_end3 (er := 0) (was := false) HL7.out HBw7.out HII.out hp); have HS5 := Lib.hid (wr_s1 HX7.out HXl7.out HZ7.out (insf3 HII.out).1 hp); have HS6 := Lib.hid (HP.out.2.sx HX7.out HXl7.out HZ7.out); have hob := HP.out.1; have o0 := hob.cell (j := 0) rfl; have o1 := hob.cell (j := 1) rfl; have o2 := hob.cell (j := 2) rfl; have of0 := hob.frozen 0; have of1 := hob.frozen 1; have of2 := hob.frozen 2; have ol := hob.lt; clear hp hob x5))
        all_goals
          go_wp2_with fail
          go_meet
        · exact ⟨_, rfl, rfl, Lib.hid HP.out⟩
        · exact ⟨_, rfl, rfl, Lib.hid HP.out.2⟩
        · exact ⟨_, rfl, rfl, Lib.hid HP.out.2⟩
      case rest =>
      obtain ⟨w8, hw8⟩ : ∃ w8, w8 = wc := ⟨_, rfl⟩
      subst hw8
      obtain ⟨y13, rfl, rfl, HY13⟩ := hcut
      obtain ⟨Z8, S8, T8, hyz8⟩ := HY13.out.side HS7.out
      have HB8 := Lib.hid (HB7.out.trans (T8.down HS7.out.sh.far HBw7.out))
      have hT8 := HM7.out.2.1.trans (turn_off HM7.out.1 T8)
      have hr11 := HM7.out.2.2.1.keep (T8.block _ HM7.out.2.2.1.lt HM7.out.2.2.2)
      have hr8 := HR5.out.keep (hT8.block _ HR5.out.lt (fun h => h HPP.out.2.2.2.1))
      have hp8 := pts_turn HP5.out.1 (Nat.le_refl _) hT8 ⟨fun a e h => h (HPP.out.2.2.2.2 _ (HP5.out.2.2.2.1 a e).1 (HP5.out.2.2.2.1 a e).2), fun q hq a e h => h (HPP.out.2.2.2.2 _ (HP5.out.2.2.2.2 q hq a e).1 (HP5.out.2.2.2.2 q hq a e).2)⟩
      have hst : Calls Tryz.prog 17 #[.pointer (some ⟨s, 0, none⟩)] w8 fun e w' => e = .returned (.tuple #[.int .i64 2, .int .i64 K1.ep, .int .i64 ((n : Int) + 1), .int .i64 K1.mv]) ∧ ∃ q, w' = w8.drewN q := by
        obtain ⟨Fd, Gd, Fk, Ft, lp, g, t, p, st, su, h, e⟩ := S8.sh
        have := stands_any h
        have e1 : standV K1 = (n : Int) + 1 := by
          unfold standV
          rw [if_pos (.inl HSTEP.out.1.st), HSTEP.out.1.vr]
          omega
        rw [e1, HSTEP.out.1.st] at this
        exact this
      have hpt : ∀ q, Calls Tryz.prog 21 #[.pointer (some ⟨s, 0, none⟩)] (w8.drewN q) (PtsF K1.T (w8.drewN q)) := fun q => by
        obtain ⟨Fd, Gd, Fk, Ft, lp, g, t, p, st, su, h, e⟩ := S8.sh.drewN q
        exact spoints_any h HSTEP.out.1.st
      have HST := Lib.hid hst
      have HPT := Lib.hid hpt
      have HM8 := Lib.hid (And.intro hp8 (And.intro hr8 hr11))
      clear HW7 HA7 HC7 HJ1 HJ2 x1 xl
      have x1 := S8.row.cell (j := 1) (u := .pointer (some ⟨s, 0, none⟩)) rfl
      have xl := S8.row.lt
      have a1 := hr8.cell (j := 1) (u := .bool b0) rfl
      have a2 := hr11.cell (j := 1) (u := .bool b0) rfl
      have al := hr8.lt
      have bl := hr11.lt
      have HS8 := Lib.hid S8
      have HSZ := Lib.hid hT8.size
      have hbb : (b0 != b0) = false := by cases b0 <;> rfl
      have hnn : ((n : Int) + 1 != (n : Int) + 1) = false := by simp
      clear S8 T8 hyz8 hT8 hr11 hr8 hp8 hst hpt HY13 HX7 HXl7 HZ7 HL7 HBw7 HCON7 HM7 HS7
      go_wp2_with fail
      refine HST.out.mono ?_
      rintro e w9 ⟨rfl, q9, rfl⟩
      have HPT9 := Lib.hid (HPT.out q9)
      go_wp2_with fail
      refine HPT9.out.mono ?_
      rintro e w10 ⟨A10, n10, c10, l10, rfl, hp10, hn10, hl10, hb10, _, _⟩
      have hb8 : Below w8.heap.size w8 w10 := (below_drewN (Below.refl _ _) q9).trans hb10
      have HSM := Lib.hid (q8same_any A10 A5 n10 n5 c10 c5 _ _ l10 l5 w10 hp10 (HM8.out.1.below (hb8.mono HSZ.out)) (Nat.le_refl _) (Nat.le_trans HSZ.out hb8.size) (by omega) (by rw [hl10, HP5.out.2.2.1]))
      have HB10 := Lib.hid hb8
      clear hp10 hn10 hl10 hb10 hb8 HPT9 HPT HST
      have x1' := (HB10.out.cell (p := ⟨x, 1, none⟩) xl).trans x1
      clear x1
      go_wp2_with fail
      refine HSM.out.mono ?_
      rintro e w11 ⟨rfl, q11, rfl⟩
      have hb9 : Below w8.heap.size w8 (w10.drewN q11) := below_drewN HB10.out q11
      have HFIN := Lib.hid (show OnceSt w x d (n + 1) (w10.drewN q11) from ⟨s, Z8, R1, K1, HS8.out.under hb9, HSTEP.out.1, HB8.out.trans (hb9.mono HB8.out.size)⟩)
      clear hb9
      go_wp2_with fail
      exact ⟨⟨n + 1, by go_num, by omega, by omega, HFIN.out⟩, by simp [intOf]; omega⟩
    · have hb := hb3
      have HA := Lib.hid (HAW.out w3 hb3)
      have HB3 := Lib.hid hb3
      by_cases hlt : n < len
      · have hltz : (n : Int) < (len : Int) := by omega
        have hltz30 : ¬ (n : Int) < 30 := by omega
        clear S3 HO hb3 hb
        go_wp2_with fail
        refine HA.out.mono ?_
        rintro e w4 ⟨rfl, hb4⟩
        go_wp2_with fail
        go_ret
        exact ⟨rfl, HB3.out.trans hb4⟩
      · have hltz : ¬ (n : Int) < (len : Int) := by omega
        clear S3 HO hb3 hb
        go_wp2_with fail
        refine HA.out.mono ?_
        rintro e w4 ⟨rfl, hb4⟩
        go_wp2_with fail
        go_ret
        exact ⟨rfl, HB3.out.trans hb4⟩
end Go.Proofs.YtegjjhjgfkcbhaaGreatDoor
end
section
namespace Go.Proofs.YtegjjhjgfkcbhaaGreatDoor
open Go Go.ChangeShapes Go.WideShapes Go.ChangeAt Go.RowKit
open Go.ChangeMaps (open_string shut_string)
set_option linter.unusedVariables false

theorem tabs_of_laid {W : World} {a b : DataW Unit} (h : laidMet Tryz.prog [("math/bits.deBruijn32tab", a), ("math/bits.deBruijn64tab", b), ("internal/strconv.uint64pow10", Rows.laid_internal_strconv_uint64pow10), ("plover/crc.left", Rows.laid_plover_crc_left)] W) : TabW W ∧ Tabs W W.heap.size :=
  ⟨tabW_of (Lib.tabIs_of_head (k := .i64) (zs := tabI) (g := 0) (t := 287) (e := 3) (n := 16) (by kernel_rfl) (by kernel_rfl) Tryz.underlying287 Tryz.underlying3 (by kernel_rfl) (by kernel_rfl) h.tail.tail.tail),
   Lib.tabBelow_of_tabIs (Lib.tabIs_of_head (g := 2) (t := 332) (e := 270) (n := 20) (by kernel_rfl) (by kernel_rfl) Tryz.underlying332 Tryz.underlying270 (by kernel_rfl) (by kernel_rfl) h.tail.tail)⟩
theorem own_shardOnce : ownKnob Tryz.prog.godebug = none := by kernel_rfl
theorem laidOut_shardOnce : laidOutB Tryz.prog = true := by kernel_rfl
set_option maxRecDepth 100000 in
theorem lifted_shardOnce (os : Os) (started : os.Started) (H : Type) (enc : TypeId × Value → H) :
    ReturnsInHanded {} Tryz.checked os 7 .any (fun w args => (Rows.shardOnceSpec.pre enc Tryz.prog Tryz.f7 Rows.shardOnceRow.domain false w args ∧ laidMetH Tryz.prog Rows.shardOnceRow.laid w) ∧ sizedMet enc Tryz.prog Tryz.f7 (OpenSpec.ofChange Rows.shardOnceSpec) false w args)
      (Rows.shardOnceSpec.post enc Tryz.prog Tryz.f7 false true false false) := by
  refine returnsInHanded_of_change_and (C := Tryz.checked) (X := fun w _ => laidMetH Tryz.prog Rows.shardOnceRow.laid w) (fun _ _ _ hh h => h.of_heap hh) own_shardOnce started (by kernel_rfl) Tryz.func7
    (ChangeSpec.witness_shaped (enc := enc) (C := Tryz.checked) (os := os) (X := fun w _ => laidMetH Tryz.prog Rows.shardOnceRow.laid w) false (World.laidAll Tryz.prog os Rows.shardOnceRow.laid) #[.slice none 0 0, .int .i64 0] 8 (World.laidAll_os _ _ _)
      (World.shaped_of_ZipB (by kernel_rfl) (by kernel_rfl)) (by kernel_rfl) (by kernel_rfl) (by kernel_rfl)
      (by rw [MakeChecks.laidMetH_plain _ _ _ (by kernel_rfl)]; exact laidMet_laidAll _ (by kernel_rfl) (by kernel_rfl))) ?_
  intro W base args ds gs before hval0 hW _ _ hL _
  have hval : ∀ (j : Nat) t v, Tryz.f7.params[j]? = some t → args[j]? = some v → Value.okWide Tryz.prog W .any base t v := hval0
  have hW' := hW
  obtain ⟨p, q, hA0, hV, rfl, hfr, _⟩ := hW
  have hA : DataW.TrodAll enc Tryz.prog W 0 (fun _ => true) true Tryz.f7.params.toList args.toList ds p := hA0
  rw [Tryz.params7] at hA hval
  obtain ⟨v0, vs0, d0, ds0, p0, q0, hargs, rfl, rfl, h0, r0⟩ := trodAll_cons hA
  obtain ⟨v1, vs1, d1, ds1, p1, q1, rfl, rfl, rfl, h1, r1⟩ := trodAll_cons r0
  obtain ⟨rfl, rfl, rfl⟩ := trodAll_nil r1
  obtain rfl : args = #[v0, v1] := by cases args; simp_all
  obtain ⟨rfl, rfl⟩ := trodVars_none hV
  obtain ⟨a0, len0, cap0, rfl⟩ := okWide_slice Tryz.underlying27 (hval 0 27 v0 rfl rfl)
  have k0 := h0
  have lt0 : ∀ x ∈ p0, x.block < W.heap.size := by obtain ⟨m, hm⟩ := k0; exact DataW.trod_lt m _ _ _ hm
  obtain ⟨l0, w0, lm0, z0⟩ := open_lw h0
  obtain ⟨a1, rfl, rfl, rfl, w1⟩ := open_int Tryz.underlying3 (hval 1 3 v1 rfl rfl) h1
  clear hA0 hval0
  rw [MakeChecks.laidMetH_plain _ _ _ (by kernel_rfl)] at hL
  have hT := tabs_of_laid hL
  refine (shardOnce_walk a0 len0 cap0 l0 a1 W w0 lm0 z0 (i64_of_wf w1) ⟨hT.1, hT.1.size, Nat.le_refl _⟩ hT.2).mono fun e W' ⟨he, bel⟩ => ?_
  subst he
  simp only [List.append_nil] at hW'
  exact ⟨_, rfl, _, _, _, [], _, [], hW', trodAll_mk1 (shut_bool Tryz.underlying4 _), (trodAll_cons_mk (Below.trod laidOut_shardOnce (by kernel_rfl) (of_decide_eq_true (by kernel_rfl)) k0 bel lt0) (trodAll_cons_mk (shut_int Tryz.underlying3 w1) trodAll_mk0)), rfl, bel.frame _, fun h => by cases h⟩
theorem over_shardOnce : Rows.shardOnceRow.holds Tryz.pinned (OpenSpec.ofChange Rows.shardOnceSpec) :=
  OpenClaim.holds_of_wide 7 Tryz.f7 rfl rfl rfl rfl rfl rfl rfl ⟨rfl, rfl, rfl, rfl, rfl⟩ rfl rfl rfl rfl rfl (by kernel_rfl) Tryz.func7 (by kernel_rfl)
    (of_decide_eq_true (by kernel_rfl)) (by unfold Func.isWrapper; first | (rw [if_pos (by decide +kernel)]; kernel_rfl) | (rw [if_neg (by decide +kernel)]; exact ⟨rfl, rfl⟩))
    (fun os started H enc _ => lifted_shardOnce os started H enc)
theorem shardOnce_card : Rows.ShardOnceCardSaid :=
  Claim7.holds_tied_plain_at .later [] [.data, .data, .data, .data] true (true, "618bdd8cbc1ef53bba7a0e1017d1214eba9873d8def9bd228b2724acb4b5b501") true over_shardOnce (fun _ h => by cases h) (by kernel_rfl) (fun _ h => by cases h) shardOnce_row_tie rfl ⟨rfl, rfl⟩ (by kernel_rfl) rfl
    (fun f fn hf hfn => by
      obtain rfl : f = 7 := Option.some.inj ((show Tryz.prog.funcNamed "plover/ploverlaw10.ShardOnce" = some 7 by kernel_rfl).symm.trans hf) |>.symm
      obtain rfl : fn = Tryz.f7 := (Option.some.inj (Tryz.func7.symm.trans hfn)).symm
      exact ⟨by kernel_rfl, fun j t ht => by
        rw [Tryz.params7] at ht
        have hm : t ∈ [27, 3] := by simpa using Array.mem_of_getElem? ht
        have hall : ([27, 3].all fun u => !Tryz.prog.wantsStandIn u) = true := by kernel_rfl
        exact (show Tryz.prog.wantsStandIn t = false by simpa using List.all_eq_true.1 hall t hm)⟩)
    (by kernel_rfl)
#print axioms shardOnce_card
end Go.Proofs.YtegjjhjgfkcbhaaGreatDoor
end
