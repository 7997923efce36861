/- SSur CSur. Conditions: as each part says. -/
import Derived.Test.YtegjjhjgfkcbhaaGreatDoorQ51
import Derived.Test.YtegjjhjgfkcbhaaGreatDoorTie
import Derived.Test.YtegjjhjgfkcbhaaGreatDoorCards
import Derived.ProofKit
import Derived.ShutString
import Derived.OpenShut
import Derived.ChangeOld
import Derived.Lay
import Derived.Lib.LaidTab
import Derived.Stop.LaidErr
import Derived.SevenTiedAt
import Derived.SliceStrings
set_option linter.unusedVariables false
set_option linter.unusedSimpArgs false
set_option maxRecDepth 100000
set_option maxHeartbeats 16000000
namespace Go.Proofs.YtegjjhjgfkcbhaaGreatDoor
section
open Go Go.RowKit
section
variable {w w' : World} {B : Nat} {Z Z' : Nat -> Prop} {x s s' d tn : Nat} {R : List RK} {k : KS} {P : Nat -> Prop} {A0 : Option Addr} {c0 : Nat} {l : List Pt}
theorem SX.far (h : SX w B Z x s d tn R k P A0 c0 l) : ∀ b,(Z b \/ b = x) -> B <= b:=fun b hb=>hb.elim (h.side.sh.far b) (fun e=>by rw [e];exact h.side.xB)
theorem SX.lt (h : SX w B Z x s d tn R k P A0 c0 l) : ∀ b,(Z b \/ b = x) -> b < w.heap.size:=fun b hb=>hb.elim (h.side.sh.lt b) (fun e=>by rw [e];exact h.side.row.lt)
theorem SX.opened (h : SX w B Z x s d tn R k P A0 c0 l) (hs : Side w' B Z' x s' d tn R k (qV k.dm 2 k.ep k.mv k.vr (.slice A0 l.length c0) k.q)) (T : Turn (fun b=>Z b \/ b = x) w (fun b=>Z' b \/ b = x) w') : SX w' B Z' x s' d tn R k P A0 c0 l :=
 ⟨hs,h.st,h.doc.keep (fun b hb=>T.block b (h.doc.lt b hb) (fun hz=>hz.elim (h.off b hb).1 (h.off b hb).2)) T.size,h.eq,fun b hb=>⟨fun hz=>(T.foot b (.inl hz)).elim (fun hz=>hz.elim (h.off b hb).1 (h.off b hb).2) (fun hge=>by have:=h.doc.lt b hb;omega),(h.off b hb).2⟩,h.low⟩
theorem rowM_turn {M : Nat} {T0 : TypeId} {xs : List Value} (h : SX w B Z x s d tn R k P A0 c0 l) (hM : Row w M T0 xs) (hn : ¬ (Z M \/ M = x)) (T : Turn (fun b=>Z b \/ b = x) w (fun b=>Z' b \/ b = x) w') : Row w' M T0 xs /\ ¬ (Z' M \/ M = x) :=
 ⟨hM.keep (T.block M hM.lt hn),fun hz=>(T.foot M hz).elim hn (fun hge=>by have:=hM.lt;omega)⟩
end
def SurSt (w0 : World) (x d i : Nat) (wr : World) : Prop:=∃ s Z R k P A0 c0 l,SX wr w0.heap.size Z x s d 1 R k P A0 c0 l /\ SurI i R k /\ Below w0.heap.size w0 wr
theorem sur0 : SurI 0 [emptyR 2 2 3 0] (emptyK 2 2 3 0):=⟨rfl,rfl,Int.le_refl _,Int.le_refl _,(fun r hr m=>by simp at hr;subst hr;exact (fun h=>by cases h)),Nat.le_refl _,Nat.le_refl _,by decide +kernel⟩
theorem wf_s64 {n : Int} (h : Be.S64 n) : (Lit.int .i64 n).wf = true:=by
 rw [Lit.wf_int_iff]
 have h1 : IntKind.i64.min = -9223372036854775808:=by decide
 have h2 : IntKind.i64.max = 9223372036854775807:=by decide
 rw [h1,h2]
 exact h
theorem sur_mask (i : Nat) : bits .and .i64 (i : Int) 3 = ((i % 4 : Nat) : Int):=by
 have hm : (BitVec.ofInt 64 3).toNat = 2 ^ 2 - 1:=by decide
 have key : (BitVec.ofInt 64 (i : Int) &&& BitVec.ofInt 64 3).toNat = ((i : Int) % ((2 ^ 64 : Nat) : Int)).toNat % 2 ^ 2:=by
  rw [BitVec.toNat_and,BitVec.toNat_ofInt,hm,Nat.and_two_pow_sub_one_eq_mod]
 show IntKind.i64.wrap ((BitVec.ofInt 64 (i : Int) &&& BitVec.ofInt 64 3).toNat : Nat) = _
 rw [key,IntKind.wrap_i64]
 omega
theorem shardSurvives_walk (A0 : Option Addr) (len cap : Nat) (kp tr : Int) (w : World) (hC : ChsAt w w.heap.size A0 len) (hlm : len <= maxLen) (hkp : Be.S64 kp) (htr : Be.S64 tr) (hT : Tab w w.heap.size) (hP : Tabs w w.heap.size) : Calls Tryz.prog 3 #[.slice A0 len cap,.int .i64 kp,.int .i64 tr] w (Gives (.bool true) w):=by
 have HBE:=Lib.hid (begun_any w hT hP)
 have HAW:=Lib.hid (fun (w' : World) (hb : Below w.heap.size w w')=>sawake_any (B:=w.heap.size) w' (hT.on hb) (hP.on hb))
 have HC:=Lib.hid hC
 have HKT:=Lib.hid (And.intro hkp htr)
 unfold maxLen at hlm
 clear hC hT hP hkp htr
 go_enter Tryz.func3,Tryz.ntmps3
 go_wp2_with fail
 refine HBE.out.mono ?_
 rintro e w1 hpost
 unfold BegunPost at hpost
 obtain ⟨x,s,d,Z1,rfl,S1,hb1w⟩:=hpost
 have HD1:=Lib.hid (does1_any S1 S1.sh.tabs.1.le)
 have HB1:=Lib.hid hb1w
 have HS1:=Lib.hid S1
 clear S1 hb1w HBE
 go_wp2_with fail
 refine HD1.out.mono ?_
 rintro e w2 hpost
 unfold DoesP at hpost
 obtain ⟨rfl,Z2,P2,A2,c2,l2,S2,T2⟩:=hpost
 have hB2 : Below w.heap.size w w2:=HB1.out.trans (T2.down (fun b hb=>hb.elim (HS1.out.sh.far b) (fun e=>by rw [e];exact HS1.out.xB)) HS1.out.sh.tabs.1.le)
 have HST0:=Lib.hid (show SurSt w x d 0 w2 from ⟨s,Z2,_,_,P2,A2,c2,l2,S2,sur0,hB2⟩)
 clear HD1 S2 T2 hB2 HS1 HB1
 go_wp2_with fail
 go_loopw [9] (fun v wr=>∃ i : Nat,v = .int .i64 (i : Int) /\ i <= 20 /\ i <= len /\ SurSt w x d i wr) (fun v _=>20 - (intOf v).toNat)
 case atStart=>exact ⟨0,rfl,by omega,by omega,HST0.out⟩
 case round =>
  clear HST0
  obtain ⟨i,rfl,hi20,hil,s3,Z3,R,k,P3,A3,c3,l3,S3,HI,hb3⟩:=hrel
  by_cases hgo : i < len /\ i < 20
  ·obtain ⟨hlt,hlt20⟩:=hgo
   have hltz : (i : Int) < (len : Int):=by omega
   have hltz20 : (i : Int) < 20:=by omega
   obtain ⟨ad,knd,xx,K,A,n,c,vec,rfl,hch⟩:=HC.out i hlt
   have hch3:=hch.below hb3
   have k0:=hch3.c0
   have k1:=hch3.c1
   have k2:=hch3.c2
   have k3:=hch3.c3
   have hsz3:=hb3.size
   have kl : (ad.add (i * 4)).block < wr.heap.size:=by have:=hch3.lt;have : w.heap.size <= wr.heap.size:=S3.side.sh.tabs.1.le;omega
   have e3:=sur_mask i
   obtain ⟨u,hu⟩ : ∃ u,i % 4 = u:=⟨_,rfl⟩
   rw [hu] at e3
   have hu4 : u < 4:=by omega
   have hw1 : IntKind.i64.wrap (1 + (i : Int)) = 1 + (i : Int):=by rw [IntKind.wrap_i64];omega
   have hm : Be.mayB (u : Int) (1 + (i : Int)) = true:=may2 (by omega) (by omega) (u : Int) ⟨by omega,by omega⟩
   have hgood:=S3.side.sh.good
   have hstep:=HI.step hgood hm (by omega) knd xx vec
   have hagain:=wr1_again k hgood.tab hm knd xx vec
   obtain ⟨w4,hw4⟩ : ∃ w4,w4 = wr.alloc (.cells (actC 2 (u : Int) (1 + (i : Int)) 0 knd xx K A n c).toArray 31):=⟨_,rfl⟩
   have hb4 : Below wr.heap.size wr w4:=by rw [hw4];exact (Below.refl _ wr).alloc (Nat.le_refl _) _
   have rM : Row w4 wr.heap.size 31 (actC 2 (u : Int) (1 + (i : Int)) 0 knd xx K A n c):=by rw [hw4];exact Row.new wr _ _
   have S4:=S3.on hb4
   have hBw : w.heap.size <= wr.heap.size:=S3.side.sh.tabs.1.le
   have hb4w : Below w.heap.size w w4:=hb3.trans (hb4.mono hBw)
   have hnM : ¬ (Z3 wr.heap.size \/ wr.heap.size = x):=fun hz=>by have:=S3.lt _ hz;omega
   have HW4:=Lib.hid hw4
   have HM4:=Lib.hid (And.intro rM hnM)
   have HS4:=Lib.hid S4
   have HB4:=Lib.hid hb4w
   have HI1:=Lib.hid HI
   have HST:=Lib.hid (And.intro hstep (And.intro hagain hm))
   have HCH:=Lib.hid hch
   have HL:=Lib.hid (fun (w5 : World)=>long_any (u : Int) (1 + (i : Int)) knd xx K A n c w5)
   have HFIT:=Lib.hid (And.intro (show R.length <= 100 by have:=HI1.out.len;omega) (And.intro (show k.T.length < 512 by have:=HI1.out.few;omega) (show k.vr < 1000000000 by have:=HI1.out.vr;omega)))
   clear S3 HI hch3 hgood hstep hagain hm hb4 rM S4 hb4w hnM hch hu hb3 hsz3
   go_wp2_with fail
   rw [<- HW4.out]
   refine (HL.out w4).mono ?_
   rintro e w5 ⟨rfl,hb5⟩
   have S5:=HS4.out.on hb5
   have hb5w : Below w.heap.size w w5:=HB4.out.trans (hb5.mono HS4.out.side.sh.tabs.1.le)
   have r5 : Row w5 wr.heap.size 31 (actC 2 (u : Int) (1 + (i : Int)) 0 knd xx K A n c):=HM4.out.1.keep (hb5.block _ HM4.out.1.lt)
   have HB5:=Lib.hid hb5w
   have HS5:=Lib.hid S5
   have HM5:=Lib.hid (And.intro r5 HM4.out.2)
   have hml:=r5.lt
   have m0:=r5.cell (j:=0) rfl
   have m1:=r5.cell (j:=1) rfl
   have m2:=r5.cell (j:=2) rfl
   have m3:=r5.cell (j:=3) rfl
   have m4:=r5.cell (j:=4) rfl
   have m5:=r5.cell (j:=5) rfl
   have m6:=r5.cell (j:=6) rfl
   have m7:=r5.cell (j:=7) rfl
   have m8:=r5.cell (j:=8) rfl
   have m9:=r5.cell (j:=9) rfl
   have m10:=r5.cell (j:=10) rfl
   clear hb5 S5 hb5w r5 k0 k1 k2 k3 kl HL HW4
   by_cases hlong : (40 : Int) < (n : Int)
   ·rw [decide_eq_true hlong]
    clear m0 m1 m2 m3 m4 m5 m6 m7 m8 m9 m10
    go_wp2_with fail
    refine (HAW.out _ HB5.out).mono ?_
    rintro e w9 ⟨rfl,hb9⟩
    have HB9:=Lib.hid hb9
    clear hb9
    go_wp2_with fail
    go_ret
    exact ⟨rfl,HB5.out.trans HB9.out⟩
   ·rw [decide_eq_false hlong]
    have HD:=Lib.hid (does2_any HS5.out (u : Int) (1 + (i : Int)) knd xx K HST.out.2.2 HI1.out.np HFIT.out.1 HFIT.out.2.1 HFIT.out.2.2 HCH.out.x64 (wf_s64 HCH.out.x64) (c:=c) (HCH.out.rd.below HB5.out) HCH.out.max HS5.out.side.sh.tabs.1.le)
    go_wp2_with fail
    refine HD.out.mono ?_
    rintro e w6 hpost
    unfold DoesP at hpost
    obtain ⟨rfl,Z6,P6,A6,c6,l6,S6,T6⟩:=hpost
    have HB6:=Lib.hid (HB5.out.trans (T6.down HS5.out.far HS5.out.side.sh.tabs.1.le))
    obtain ⟨r6,hn6⟩:=rowM_turn HS5.out HM5.out.1 HM5.out.2 T6
    have HM6:=Lib.hid (And.intro r6 hn6)
    have HS6:=Lib.hid S6
    have HFL:=Lib.hid (fails_any S6.side HST.out.1.dm HST.out.1.np kp tr HKT.out.1 HKT.out.2)
    clear S6 T6 r6 hn6 m0 m1 m2 m3 m4 m5 m6 m7 m8 m9 m10 hml HD
    go_wp2_with fail
    refine HFL.out.mono ?_
    rintro e w7 hpost
    unfold FailsPost at hpost
    obtain ⟨rfl,s7,Z7,hs7,T7⟩:=hpost
    have S7:=HS6.out.opened hs7 T7
    have HB7:=Lib.hid (HB6.out.trans (T7.down HS6.out.far HS6.out.side.sh.tabs.1.le))
    obtain ⟨r7,hn7⟩:=rowM_turn HS6.out HM6.out.1 HM6.out.2 T7
    have HM7:=Lib.hid (And.intro r7 hn7)
    have HS7:=Lib.hid S7
    have HSM:=Lib.hid (same_any S7)
    clear S7 T7 r7 hn7 hs7 HFL
    go_wp2_with fail
    refine HSM.out.mono ?_
    rintro e w8 ⟨rfl,hb8⟩
    have S8:=HS7.out.on hb8
    have HB8:=Lib.hid (HB7.out.trans (hb8.mono HS7.out.side.sh.tabs.1.le))
    have r8:=HM7.out.1.keep (hb8.block _ HM7.out.1.lt)
    have hml:=r8.lt
    have m0:=r8.cell (j:=0) rfl
    have m1:=r8.cell (j:=1) rfl
    have m2:=r8.cell (j:=2) rfl
    have m3:=r8.cell (j:=3) rfl
    have m4:=r8.cell (j:=4) rfl
    have m5:=r8.cell (j:=5) rfl
    have m6:=r8.cell (j:=6) rfl
    have m7:=r8.cell (j:=7) rfl
    have m8:=r8.cell (j:=8) rfl
    have m9:=r8.cell (j:=9) rfl
    have m10:=r8.cell (j:=10) rfl
    have HS8:=Lib.hid S8
    have HD:=Lib.hid (does2_any S8 (u : Int) (1 + (i : Int)) knd xx K HST.out.2.2 HST.out.1.np (by have:=HST.out.1.len;omega) (by have:=HST.out.1.few;omega) (by have:=HST.out.1.vr;omega) HCH.out.x64 (wf_s64 HCH.out.x64) (c:=c) (HCH.out.rd.below HB8.out) HCH.out.max S8.side.sh.tabs.1.le)
    clear S8 hb8 r8 HSM
    go_wp2_with fail
    refine HD.out.mono ?_
    rintro e w9 hpost
    unfold DoesP at hpost
    obtain ⟨rfl,Z9,P9,A9,c9,l9,S9,T9⟩:=hpost
    rw [HST.out.2.1.1,HST.out.2.1.2,List.append_nil] at S9
    have HB9:=Lib.hid (HB8.out.trans (T9.down HS8.out.far HS8.out.side.sh.tabs.1.le))
    have HS9:=Lib.hid S9
    clear S9 T9 m0 m1 m2 m3 m4 m5 m6 m7 m8 m9 m10 hml HD
    go_wp2_with fail
    exact ⟨⟨i + 1,by go_num,by omega,by omega,s7,Z9,_,_,P9,A9,c9,l9,HS9.out,HST.out.1,HB9.out⟩,by simp [intOf];omega⟩
  ·have HB3:=Lib.hid hb3
   have HSM:=Lib.hid (same_any S3)
   have hnl : ¬ ((i : Int) < (len : Int)) \/ ¬ ((i : Int) < 20):=by omega
   have HS3:=Lib.hid S3
   clear S3 HI hb3 hgo
   have hend : (¬ ((i : Int) < (len : Int))) \/ ((i : Int) < (len : Int) /\ ¬ ((i : Int) < 20)):=by omega
   rcases hend with hnl | ⟨hnl,hnl2⟩
   ·go_wp2_with fail
    refine HSM.out.mono ?_
    rintro e w8 ⟨rfl,hb8⟩
    have HB8:=Lib.hid (HB3.out.trans (hb8.mono HS3.out.side.sh.tabs.1.le))
    clear hb8
    go_wp2_with fail
    refine (HAW.out _ HB8.out).mono ?_
    rintro e w9 ⟨rfl,hb9⟩
    have HB9:=Lib.hid hb9
    clear hb9
    go_wp2_with fail
    go_ret
    exact ⟨rfl,HB8.out.trans HB9.out⟩
   ·go_wp2_with fail
    refine HSM.out.mono ?_
    rintro e w8 ⟨rfl,hb8⟩
    have HB8:=Lib.hid (HB3.out.trans (hb8.mono HS3.out.side.sh.tabs.1.le))
    clear hb8
    go_wp2_with fail
    refine (HAW.out _ HB8.out).mono ?_
    rintro e w9 ⟨rfl,hb9⟩
    have HB9:=Lib.hid hb9
    clear hb9
    go_wp2_with fail
    go_ret
    exact ⟨rfl,HB8.out.trans HB9.out⟩
end
section
open Go Go.ChangeShapes Go.WideShapes Go.ChangeAt Go.RowKit
open Go.ChangeMaps (open_string shut_string)
theorem tabs_of_laid {W : World} {a b : DataW Unit} (h : laidMet Tryz.prog [("math/bits.deBruijn32tab",a),("math/bits.deBruijn64tab",b),("internal/strconv.uint64pow10",Rows.laid_internal_strconv_uint64pow10),("plover/crc.left",Rows.laid_plover_crc_left)] W) : TabW W /\ Tabs W W.heap.size :=
 ⟨tabW_of (Lib.tabIs_of_head (k:=.i64) (zs:=tabI) (g:=0) (t:=287) (e:=3) (n:=16) (by kernel_rfl) (by kernel_rfl) Tryz.underlying287 Tryz.underlying3 (by kernel_rfl) (by kernel_rfl) h.tail.tail.tail),
  Lib.tabBelow_of_tabIs (Lib.tabIs_of_head (g:=2) (t:=332) (e:=270) (n:=20) (by kernel_rfl) (by kernel_rfl) Tryz.underlying332 Tryz.underlying270 (by kernel_rfl) (by kernel_rfl) h.tail.tail)⟩
theorem own_shardSurvives : ownKnob Tryz.prog.godebug = none:=by kernel_rfl
theorem laidOut_shardSurvives : laidOutB Tryz.prog = true:=by kernel_rfl
theorem lifted_shardSurvives (os : Os) (started : os.Started) (H : Type) (enc : TypeId × Value -> H) :
  ReturnsInHanded {} Tryz.checked os 3 .any (fun w args=>(Rows.shardSurvivesSpec.pre enc Tryz.prog Tryz.f3 Rows.shardSurvivesRow.domain false w args /\ laidMetH Tryz.prog Rows.shardSurvivesRow.laid w) /\ sizedMet enc Tryz.prog Tryz.f3 (OpenSpec.ofChange Rows.shardSurvivesSpec) false w args)
   (Rows.shardSurvivesSpec.post enc Tryz.prog Tryz.f3 false true false false):=by
 refine returnsInHanded_of_change_and (C:=Tryz.checked) (X:=fun w _=>laidMetH Tryz.prog Rows.shardSurvivesRow.laid w) (fun _ _ _ hh h=>h.of_heap hh) own_shardSurvives started (by kernel_rfl) Tryz.func3
  (ChangeSpec.witness_shaped (enc:=enc) (C:=Tryz.checked) (os:=os) (X:=fun w _=>laidMetH Tryz.prog Rows.shardSurvivesRow.laid w) false (World.laidAll Tryz.prog os Rows.shardSurvivesRow.laid) #[.slice none 0 0,.int .i64 0,.int .i64 0] 8 (World.laidAll_os _ _ _)
   (World.shaped_of_ZipB (by kernel_rfl) (by kernel_rfl)) (by kernel_rfl) (by kernel_rfl) (by kernel_rfl)
   (by rw [MakeChecks.laidMetH_plain _ _ _ (by kernel_rfl)];exact laidMet_laidAll _ (by kernel_rfl) (by kernel_rfl))) ?_
 intro W base args ds gs before hval0 hW _ _ hL _
 have hval : ∀ (j : Nat) t v,Tryz.f3.params[j]? = some t -> args[j]? = some v -> Value.okWide Tryz.prog W .any base t v:=hval0
 have hW':=hW
 obtain ⟨p,q,hA0,hV,rfl,hfr,_⟩:=hW
 have hA : DataW.TrodAll enc Tryz.prog W 0 (fun _=>true) true Tryz.f3.params.toList args.toList ds p:=hA0
 rw [Tryz.params3] at hA hval
 obtain ⟨v0,vs0,d0,ds0,p0,q0,hargs,rfl,rfl,h0,r0⟩:=trodAll_cons hA
 obtain ⟨v1,vs1,d1,ds1,p1,q1,rfl,rfl,rfl,h1,r1⟩:=trodAll_cons r0
 obtain ⟨v2,vs2,d2,ds2,p2,q2,rfl,rfl,rfl,h2,r2⟩:=trodAll_cons r1
 obtain ⟨rfl,rfl,rfl⟩:=trodAll_nil r2
 obtain rfl : args = #[v0,v1,v2]:=by cases args;simp_all
 obtain ⟨rfl,rfl⟩:=trodVars_none hV
 obtain ⟨a0,len0,cap0,rfl⟩:=okWide_slice Tryz.underlying22 (hval 0 22 v0 rfl rfl)
 have k0:=h0
 have lt0 : ∀ x ∈ p0,x.block < W.heap.size:=by obtain ⟨m,hm⟩:=k0;exact DataW.trod_lt m _ _ _ hm
 obtain ⟨w0,lm0⟩:=open_Chs h0
 obtain ⟨a1,rfl,rfl,rfl,w1⟩:=open_int Tryz.underlying3 (hval 1 3 v1 rfl rfl) h1
 obtain ⟨a2,rfl,rfl,rfl,w2⟩:=open_int Tryz.underlying3 (hval 2 3 v2 rfl rfl) h2
 clear hA0 hval0
 rw [MakeChecks.laidMetH_plain _ _ _ (by kernel_rfl)] at hL
 have hT:=tabs_of_laid hL
 refine (shardSurvives_walk a0 len0 cap0 a1 a2 W w0 lm0 (i64_of_wf w1) (i64_of_wf w2) ⟨hT.1,hT.1.size,Nat.le_refl _⟩ hT.2).mono fun e W' ⟨he,bel⟩=>?_
 subst he
 simp only [List.append_nil] at hW'
 exact ⟨_,rfl,_,_,_,[],_,[],hW',trodAll_mk1 (shut_bool Tryz.underlying4 _),(trodAll_cons_mk (Below.trod laidOut_shardSurvives (by kernel_rfl) (of_decide_eq_true (by kernel_rfl)) k0 bel lt0) (trodAll_cons_mk (shut_int Tryz.underlying3 w1) (trodAll_cons_mk (shut_int Tryz.underlying3 w2) trodAll_mk0))),rfl,bel.frame _,fun h=>by cases h⟩
theorem over_shardSurvives : Rows.shardSurvivesRow.holds Tryz.pinned (OpenSpec.ofChange Rows.shardSurvivesSpec) :=
 OpenClaim.holds_of_wide 3 Tryz.f3 rfl rfl rfl rfl rfl rfl rfl ⟨rfl,rfl,rfl,rfl,rfl⟩ rfl rfl rfl rfl rfl (by kernel_rfl) Tryz.func3 (by kernel_rfl)
  (of_decide_eq_true (by kernel_rfl)) (by unfold Func.isWrapper;first | (rw [if_pos (by decide +kernel)];kernel_rfl) | (rw [if_neg (by decide +kernel)];exact ⟨rfl,rfl⟩))
  (fun os started H enc _=>lifted_shardSurvives os started H enc)
theorem shardSurvives_card : Rows.ShardSurvivesCardSaid :=
 Claim7.holds_tied_plain_at .later [] [.data,.data,.data,.data] true (true,"618bdd8cbc1ef53bba7a0e1017d1214eba9873d8def9bd228b2724acb4b5b501") true over_shardSurvives (fun _ h=>by cases h) (by kernel_rfl) (fun _ h=>by cases h) shardSurvives_row_tie rfl ⟨rfl,rfl⟩ (by kernel_rfl) rfl
  (fun f fn hf hfn=>by
   obtain rfl : f = 3:=Option.some.inj ((show Tryz.prog.funcNamed "plover/ploverlaw10.ShardSurvives" = some 3 by kernel_rfl).symm.trans hf) |>.symm
   obtain rfl : fn = Tryz.f3:=(Option.some.inj (Tryz.func3.symm.trans hfn)).symm
   exact ⟨by kernel_rfl,fun j t ht=>by
    rw [Tryz.params3] at ht
    have hm : t ∈ [22,3,3]:=by simpa using Array.mem_of_getElem? ht
    have hall : ([22,3,3].all fun u=>!Tryz.prog.wantsStandIn u) = true:=by kernel_rfl
    exact (show Tryz.prog.wantsStandIn t = false by simpa using List.all_eq_true.1 hall t hm)⟩)
  (by kernel_rfl)
#print axioms shardSurvives_card
end
end Go.Proofs.YtegjjhjgfkcbhaaGreatDoor
