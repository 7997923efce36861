/- Anew AnewOk SLog. Conditions: as each part says. -/
import Derived.Test.YtegjjhjgfkcbhaaGreatDoorQ40
set_option linter.unusedVariables false
set_option linter.unusedSimpArgs false
set_option maxRecDepth 100000
set_option maxHeartbeats 16000000
namespace Go.Proofs.YtegjjhjgfkcbhaaGreatDoor
section
open Go Go.RowKit
section
variable {w w' : World} {F G F' : Nat -> Prop} {p d N t st : Nat} {R : List (List UInt8)} {sr : Nat} {su : List ByteArray} {l : List (Nat × ByteArray)}
theorem LogD.anew (h : LogD N t R sr su l) (ht : t + 1 <= 1000000) (hlen : su.length = N) (rs : List (List UInt8)) (hs : ∀ r ∈ rs,r.length <= 32768) (hfit : (encs rs).length <= 128 * hB N (t + 1)) :
  LogD N (t + 1) rs rs.length (setsP ((l ++ layW (setsP l su) (hF N (t + 1)) (hB N (t + 1)) (encs rs)) ++ [((t + 1) % 2,headS (t + 1))]) su) []:=by
 have hF3:=hFB N (t + 1) h.h4
 have hF3':=hFB N t h.h4
 have hll : (setsP l su).length = N:=by rw [setsP_len];exact hlen
 obtain ⟨s1,s2⟩:=layW_sets (setsP l su) (hB N (t + 1)) (hF N (t + 1)) (encs rs) (setsP l su) (fun _ _ _=>rfl) (by omega)
 obtain ⟨m,_,h2,_⟩:=h.way
 have hp:=h2.place
 rw [setsP_snoc,setsP_app]
 have hlen2 : (setsP (layW (setsP l su) (hF N (t + 1)) (hB N (t + 1)) (encs rs)) (setsP l su)).length = N:=by rw [setsP_len];exact hll
 have hg : ∀ i,i < 2 -> (setsP (layW (setsP l su) (hF N (t + 1)) (hB N (t + 1)) (encs rs)) (setsP l su))[i]? = su[i]?:=fun i hi=>by
  rw [s2 i (.inl (by omega))]
  exact setsP_other fun p hpp e=>by have:=(hp p hpp).1;omega
 obtain ⟨a,b,ha,hb,hab⟩:=h.heads
 have ho : HeadOf (headS (t + 1)) (t + 1):=.inr ⟨rfl,by omega⟩
 refine ⟨h.h4,h.hN,ht,hs,hfit,?_,⟨(encs rs).length,?_,.nil _,by rw [List.take_length]⟩,Nat.le_refl _⟩
 ·rcases (show (t + 1) % 2 = 0 \/ (t + 1) % 2 = 1 by omega) with e | e
  ·rw [e]
   refine ⟨t + 1,b,?_,?_,by omega⟩
   ·rw [List.getD_eq_getElem?_getD,List.getElem?_set_self (by omega)]
    exact ho
   ·rw [List.getD_eq_getElem?_getD,List.getElem?_set_ne (by omega),hg 1 (by omega),<- List.getD_eq_getElem?_getD]
    exact hb
  ·rw [e]
   refine ⟨a,t + 1,?_,?_,by omega⟩
   ·rw [List.getD_eq_getElem?_getD,List.getElem?_set_ne (by omega),hg 0 (by omega),<- List.getD_eq_getElem?_getD]
    exact ha
   ·rw [List.getD_eq_getElem?_getD,List.getElem?_set_self (by omega)]
    exact ho
 ·rw [List.take_length]
  intro i hi
  rw [List.getElem?_set_ne (by simp only;omega)]
  exact s1 i hi
end
end
section
open Go Go.RowKit
structure Tab (w : World) (B : Nat) : Prop where
 t1 : TabW w
 pos : 0 < B
 le : B <= w.heap.size
theorem Tab.on {w w' : World} {B : Nat} (h : Tab w B) (hb : Below B w w') : Tab w' B:=⟨h.t1.below hb h.pos,h.pos,Nat.le_trans h.le hb.size⟩
section
variable {w w' : World} {F G F' : Nat -> Prop} {p d N t st B : Nat} {R : List (List UInt8)} {sr : Nat} {su : List ByteArray} {l : List (Nat × ByteArray)}
theorem anew_ok (h : LogS w F G p d N t st R sr su l) (ht : t + 1 <= 1000000) (rs : List (List UInt8)) (A0 : Option Addr) (n0 c0 : Nat) (hR : Reads w w.heap.size 1 A0 n0 (strL rs)) (hA0 : ∀ ad,A0 = some ad -> 0 < n0 -> ¬ Un F G ad.block) (hn0 : n0 <= maxLen) (hs : ∀ r ∈ rs,r.length <= 32768) (hfit : (encs rs).length <= 128 * hB N (t + 1)) (hl : l.length <= 900000)
  (hT : Tab w B) (hP0 : Tabs w B) (hK : ∀ b,Un F G b -> B <= b) : Calls Tryz.prog 116 #[.pointer (some ⟨p,0,none⟩),.slice A0 n0 c0] w fun e w' =>
  e = .returned (.int .i64 0) /\ ∃ F' G' st' su',LogS w' F' G' p d N (t + 1) st' rs rs.length su' [] /\ Turn (Un F G) w (Un F' G') w':=by
 obtain ⟨vr,A,m,c,hM⟩:=h.mem
 have hpos:=hT.pos
 have hBs:=hT.le
 have hg:=lgiven_any hM.toLgR
 have hN:=h.ok.hN
 have h4:=h.ok.h4
 have hF3:=hFB N (t + 1) h4
 have hho:=fun w1 (hb1 : Below w.heap.size w w1)=>halfOf_any (h.disk.below hb1) (t + 1) (by omega) h4 hN
 have hbm:=fun W=>hbytes_any W d (hF N (t + 1)) (hB N (t + 1)) (by omega)
 have hjn:=fun w1 (hb1 : Below w.heap.size w w1)=>join_any rs (128 * hB N (t + 1)) (by omega) A0 n0 c0 w1 ((hR.below hb1).more hb1.size) hn0 (hT.t1.below hb1 (by omega))
 have hv : joinV rs (128 * hB N (t + 1)) = .tuple #[.string ⟨(encs rs).toArray⟩,.int .i64 0]:=by
  unfold joinV
  rw [joinE_ok hs hfit,if_pos rfl]
 simp only [hv] at hjn
 have hnl:=reads_len hR
 have hn1 : n0 <= 1000000:=by have:=encs_count rs;omega
 have hok:=h.ok.anew ht h.disk.len rs hs hfit
 have hll:=layW_len (setsP l su) (hB N (t + 1)) (hF N (t + 1)) (encs rs)
 have hlay:=fun w1 (k : Disk w1 F d N su l)=>lay_any k (hF N (t + 1)) (hB N (t + 1)) 0 (hB N (t + 1)) ⟨(encs rs).toArray⟩ (by omega) hN (by omega) (by show (encs rs).length <= _;omega)
 rw [show (⟨(encs rs).toArray⟩ : ByteArray).data.toList = encs rs from rfl,Nat.add_zero] at hlay
 generalize layW (setsP l su) (hF N (t + 1)) (hB N (t + 1)) (encs rs) = WW at *
 have hph:=fun w1 F1 (k : Disk w1 F1 d N su (l ++ WW)) (kt : Tab w1 B) (kp : Tabs w1 B)=>putHead_any k h4 (t + 1) (by omega) (by rw [List.length_append];omega) kt.t1 (kp.up kt.le)
 have hsy:=fun w1 F1 (k : Disk w1 F1 d N su ((l ++ WW) ++ [((t + 1) % 2,headS (t + 1))]))=>a_sync k (by simp;omega)
 have hcp:=fun (w1 : World) (hk : ∀ ad,A0 = some ad -> 0 < n0 -> w1.heap[ad.block]? = w.heap[ad.block]?) (hsz : w.heap.size <= w1.heap.size)=>copies_any rs A0 n0 c0 w1 ⟨hR.1,fun hn=>by
  obtain ⟨ad,e,hb,hc⟩:=hR.2 hn
  exact ⟨ad,e,by omega,fun j u hu=>(World.cell?_of_block (a:=ad.add j) (by rw [block_of_add];exact hk ad e hn)).trans (hc j u hu)⟩⟩ hn1 (fun r hr=>by have:=hs r hr;omega)
 have hA1 : ∀ ad,A0 = some ad -> 0 < n0 -> ad.block < w.heap.size:=fun ad e hn=>by
  obtain ⟨ad',e',hb,_⟩:=hR.2 hn
  rw [e] at e'
  injection e' with e'
  rw [e']
  exact hb
 have hes : (⟨(encs rs).toArray⟩ : ByteArray).data.toList = encs rs:=rfl
 have hez : (⟨(encs rs).toArray⟩ : ByteArray).size = (encs rs).length:=rfl
 have htz : (t : Int) <= 1000000:=by omega
 have hnz : (hB N (t + 1) : Int) <= 20000:=by omega
 have HG:=Lib.hid hg
 have HO:=Lib.hid hho
 have HB:=Lib.hid hbm
 have HJ:=Lib.hid hjn
 have HM:=Lib.hid hM
 have HL:=Lib.hid hlay
 have HP:=Lib.hid hph
 have HS:=Lib.hid hsy
 have HC:=Lib.hid hcp
 have HOK:=Lib.hid hok
 have HTB:=Lib.hid (And.intro hT hP0)
 have HES:=Lib.hid hes
 have HA0:=Lib.hid (And.intro hA0 hA1)
 have HD:=Lib.hid h.disk
 have HA:=Lib.hid (And.intro h.apart (And.intro hK hfit))
 clear hA0 hA1 hM hg hho hbm hjn hlay hph hsy hcp hok h hT hP0 hv hR hn0 hK hfit hs hnl hll hes
 unfold halfV at HO HB HL
 rw [Int.natCast_add] at HO HP
 generalize (⟨(encs rs).toArray⟩ : ByteArray) = X at *
 go_enter Tryz.func116,Tryz.ntmps116
 go_wp2_with fail
 refine HG.out.mono ?_
 rintro e w1 ⟨rfl,q,rfl⟩
 have c2:=(HM.out.drewN q).c2
 have c1:=(HM.out.drewN q).c1
 go_wp2_with fail
 refine (HO.out _ (below_drewN (Below.refl _ w) q)).mono ?_
 rintro e w2 ⟨rfl,hb2⟩
 have hb2':=(below_drewN (Below.refl _ w) q).trans hb2
 have hx:=Hf.new w2 d (hF N (t + 1)) (hB N (t + 1))
 have hbx:=hb2'.alloc hb2'.size (.cells #[.pointer (some ⟨d,0,none⟩),.int .i64 ((hF N (t + 1) : Nat) : Int),.int .i64 ((hB N (t + 1) : Nat) : Int)] 156)
 have hqn : w.heap.size <= w2.heap.size:=hb2'.size
 have HX:=Lib.hid (And.intro hx hbx)
 clear hx hbx c1 c2 hb2 hb2'
 go_wp2_with fail
 refine (HB.out _).mono ?_
 rintro e w3 ⟨rfl,hb3⟩
 have hx3:=HX.out.1.below hb3
 have hb3' : Below w.heap.size w w3:=HX.out.2.trans (hb3.mono (B':=w.heap.size) HX.out.2.size)
 have H3:=Lib.hid (And.intro hx3 hb3')
 clear hx3 hb3 hb3' HX
 go_wp2_with fail
 refine (HJ.out _ H3.out.2).mono ?_
 rintro e w4 ⟨rfl,hb4⟩
 have hx4:=H3.out.1.below hb4
 have hb4' : Below w.heap.size w w4:=H3.out.2.trans (hb4.mono (B':=w.heap.size) H3.out.2.size)
 generalize w2.heap.size = bq at *
 have k0:=hx4.c0
 have k1:=hx4.c1
 have k2:=hx4.c2
 have kl:=hx4.lt
 have H4:=Lib.hid (And.intro hx4 hb4')
 clear hx4 hb4 hb4' H3
 go_wp2_with fail
 refine (HL.out _ (HD.out.below H4.out.2)).mono ?_
 rintro e w5 ⟨rfl,F5,hD5,hT5⟩
 have hFB : ∀ b,F b -> B <= b:=fun b hb=>HA.out.2.1 b (.inl hb)
 have hB4 : Below B w w4:=H4.out.2.mono hBs
 have hB5 : Below B w w5:=hB4.trans (hT5.down hFB (Nat.le_trans hBs H4.out.2.size))
 have hM4:=HM.out.below H4.out.2
 have hM5:=hM4.turn hT5 HA.out.1
 have hap5:=apart_left hT5 HA.out.1 hM4.lt
 have hbqn : ¬ F bq:=fun hf=>by have:=HD.out.lt bq hf;omega
 have hbql:=H4.out.1.lt
 have hx5:=H4.out.1.keep (hT5.block bq hbql hbqn)
 have c1:=hM5.c1
 have hFB5 : ∀ b,F5 b -> B <= b:=hT5.far hFB (Nat.le_trans hBs H4.out.2.size)
 have hbq5 : ¬ F5 bq:=fun hf=>(hT5.foot bq hf).elim hbqn (fun h=>by omega)
 have H5:=Lib.hid (And.intro hD5 (And.intro hB5 (And.intro hM5 (And.intro hap5 (And.intro hx5 (And.intro hT5 (And.intro hFB5 hbq5)))))))
 clear hD5 hT5 hB5 hM4 hM5 hap5 hx5 hFB5 hbq5 hB4 hFB k0 k1 k2 kl
 go_wp2_with fail
 refine (HP.out _ _ H5.out.1 (HTB.out.1.on H5.out.2.1) (HTB.out.2.on H5.out.2.1)).mono ?_
 rintro e w6 ⟨rfl,F6,hD6,hT6⟩
 have hM6:=H5.out.2.2.1.turn hT6 H5.out.2.2.2.1
 have hap6:=apart_left hT6 H5.out.2.2.2.1 H5.out.2.2.1.lt
 have hB6:=H5.out.2.1.trans (hT6.down H5.out.2.2.2.2.2.2.1 (Nat.le_trans hBs H5.out.2.1.size))
 have hx6:=H5.out.2.2.2.2.1.keep (hT6.block bq H5.out.2.2.2.2.1.lt H5.out.2.2.2.2.2.2.2)
 have hFB6 : ∀ b,F6 b -> B <= b:=hT6.far H5.out.2.2.2.2.2.2.1 (Nat.le_trans hBs H5.out.2.1.size)
 have hbq6 : ¬ F6 bq:=fun hf=>(hT6.foot bq hf).elim H5.out.2.2.2.2.2.2.2 (fun h=>by have:=H5.out.2.2.2.2.1.lt;omega)
 have hsy6:=HS.out _ _ hD6
 have d1:=hM6.c1
 have H6:=Lib.hid (And.intro hsy6 (And.intro hB6 (And.intro hM6 (And.intro hap6 (And.intro hx6 (And.intro hT6 (And.intro hFB6 hbq6)))))))
 clear hsy6 hD6 hT6 hB6 hM6 hap6 hx6 hFB6 hbq6 c1
 go_wp2_with fail
 refine H6.out.1.mono ?_
 rintro e w7 ⟨rfl,hD7,hT7⟩
 have hM7:=H6.out.2.2.1.turn hT7 H6.out.2.2.2.1
 have hB7:=H6.out.2.1.trans (hT7.down H6.out.2.2.2.2.2.2.1 (Nat.le_trans hBs H6.out.2.1.size))
 have hx7:=H6.out.2.2.2.2.1.keep (hT7.block bq H6.out.2.2.2.2.1.lt H6.out.2.2.2.2.2.2.2)
 have k0:=hx7.c0
 have k1:=hx7.c1
 have k2:=hx7.c2
 have hnep : bq ≠ p:=fun e=>by have:=HM.out.lt p HM.out.gp;omega
 have H7:=Lib.hid (And.intro hD7 (And.intro hB7 (And.intro hM7 (And.intro hx7 hT7))))
 clear hD7 hT7 hB7 hM7 hx7 d1
 go_wp2_with fail
 have T7a : Turn (Un F G) w (Un F6 G) w7:=(((Turn.below _ H4.out.2).trans (H5.out.2.2.2.2.2.1.left G)).trans (H6.out.2.2.2.2.2.1.left G)).trans (H7.out.2.2.2.2.left G)
 have HK7:=Lib.hid (And.intro (fun ad (e : A0 = some ad) (hn : 0 < n0)=>T7a.block ad.block (HA0.out.2 ad e hn) (HA0.out.1 ad e hn)) T7a.size)
 clear T7a
 have hcc : ∀ i j,(⟨p,j,none⟩ : Addr) ≠ ⟨bq,i,none⟩:=fun i j e=>hnep (by injection e with e _ _;exact e.symm)
 go_region_held3 (fun w'=>w'.cell? ⟨bq,0,none⟩ = some (.pointer (some ⟨d,0,none⟩)) /\ w'.cell? ⟨bq,1,none⟩ = some (.int .i64 ((hF N (t + 1) : Nat) : Int)) /\ w'.cell? ⟨bq,2,none⟩ = some (.int .i64 ((hB N (t + 1) : Nat) : Int)))
  (first | with_reducible exact ⟨g0,g1,g2⟩ | with_reducible exact ⟨k0,k1,k2⟩ | (refine ⟨?_,?_,?_⟩ <;> ((repeat rw [World.cell?_setCell_other _ _ _ _ (hcc _ _)]);with_reducible assumption)) | exact ⟨k0,k1,k2⟩)
  ((go_at_call 156;refine (HC.out w7.drew HK7.out.1 HK7.out.2).mono ?_;rintro e w8 ⟨v8,rfl,hv8,hb8⟩;obtain ⟨A8,cp8,rfl,hq1,hq2⟩:=own_shape hv8;have HV8:=Lib.hid (And.intro hv8 hb8);clear hq1 hq2 hv8;have hM8:=(H7.out.2.2.1.drewN 1).below hb8;have hx8 : Hf w8 bq d (hF N (t + 1)) (hB N (t + 1)):=H7.out.2.2.2.1.keep (hb8.block bq H7.out.2.2.2.1.lt);have g0:=hx8.c0;have g1:=hx8.c1;have g2:=hx8.c2;have e2:=hM8.c2;have e3:=hM8.c3;have e4:=hM8.c4;have e5:=hM8.c5;have e6:=hM8.c6;have y2:=hM8.z 2;have y3:=hM8.z 3;have y4:=hM8.z 4;have y5:=hM8.z 5;have y6:=hM8.z 6;have pl8:=hM8.pl;have bl8:=hx8.lt))
 obtain ⟨W9,hW9⟩ : ∃ W9,W9 = (((((w8.setCell ⟨p,2,none⟩ (.int .i64 ((t : Int) + 1))).setCell ⟨p,3,none⟩ (.pointer (some ⟨d,0,none⟩))).setCell ⟨p,4,none⟩ (.int .i64 ((hF N (t + 1) : Nat) : Int))).setCell ⟨p,5,none⟩ (.int .i64 ((hB N (t + 1) : Nat) : Int))).setCell ⟨p,6,none⟩ (.slice A8 rs.length cp8)):=⟨_,rfl⟩
 rw [<- hW9]
 have hrow9 : Row W9 p 159 (lcells p d (t + 1) (hF N (t + 1)) (hB N (t + 1)) (.slice A8 rs.length cp8) st (.slice A m c)):=by
  rw [hW9]
  have:=((((hM8.box.set 2 (.int .i64 ((t : Int) + 1))).set 3 (.pointer (some ⟨d,0,none⟩))).set 4 (.int .i64 ((hF N (t + 1) : Nat) : Int))).set 5 (.int .i64 ((hB N (t + 1) : Nat) : Int))).set 6 (.slice A8 rs.length cp8)
  exact this
 have hs9 : W9.heap.size = w8.heap.size:=by rw [hW9];simp
 have hk9 : ∀ b,b ≠ p -> W9.heap[b]? = w8.heap[b]?:=fun b hb=>by
  rw [hW9,heap_set_ne _ ⟨p,6,none⟩ _ hb,heap_set_ne _ ⟨p,5,none⟩ _ hb,heap_set_ne _ ⟨p,4,none⟩ _ hb,heap_set_ne _ ⟨p,3,none⟩ _ hb,heap_set_ne _ ⟨p,2,none⟩ _ hb]
 have ho9 : W9.os = w8.os /\ W9.tape = w8.tape /\ W9.output = w8.output:=by rw [hW9];exact ⟨rfl,rfl,rfl⟩
 clear hW9
 have c7:=hrow9.cell (j:=7) rfl
 have c8:=hrow9.cell (j:=8) rfl
 have z7:=hrow9.frozen 7
 have z8:=hrow9.frozen 8
 have pl9:=hrow9.lt
 have H9:=Lib.hid (And.intro hrow9 (And.intro hs9 (And.intro hk9 ho9)))
 clear hrow9 hs9 hk9 ho9 k0 k1 k2 g0 g1 g2 e2 e3 e4 e5 e6 y2 y3 y4 y5 y6 pl8 bl8
 have hcv : ∀ W,(convert 9 139 (.string X)).run Tryz.prog W = .ok (.slice (some ⟨W.heap.size,0,none⟩) X.size (grownCap W X.size 0 5)) (W.drew.alloc (.cells (bytesRow X (grownCap W X.size 0 5)) 5 ((bytesRow X (grownCap W X.size 0 5)).size,(bytesRow X (grownCap W X.size 0 5)).size + 1))):=fun W =>
  run_bytes_of_string W 9 139 5 X Tryz.underlying9 Tryz.underlying139 Tryz.underlying5
 go_wp2_with fail
 obtain ⟨cap,hcap⟩ : ∃ cap,cap = grownCap W9 (encs rs).length 0 5:=⟨_,rfl⟩
 have hfit:=HA.out.2.2
 have hc1 : (encs rs).length <= cap:=by rw [hcap];exact grownCap_ge ..
 have hc2 : cap <= maxLen:=by rw [hcap];exact grownCap_le_maxLen _ _ _ _ (by unfold maxLen;omega)
 rw [<- hcap]
 clear hcap hcv c7 c8 z7 z8 pl9
 obtain ⟨W10,hW10⟩ : ∃ W10,W10 = (((W9.setCell ⟨p,7,none⟩ (.int .i64 0)).setCell ⟨p,8,none⟩ (.slice (some ⟨W9.heap.size,0,none⟩) (encs rs).length cap)).alloc (.cells (bytesRow X cap) 5 ((bytesRow X cap).size,(bytesRow X cap).size + 1))).drew:=⟨_,rfl⟩
 rw [<- hW10]
 have hb8:=HV8.out.2
 have hs7 : w7.heap.size <= w8.heap.size:=hb8.size
 have hs10 : W10.heap.size = w8.heap.size + 1:=by rw [hW10];simp [World.drew,H9.out.2.1]
 have hpw7:=H7.out.2.2.1.pl
 have hk10 : ∀ b,b < W9.heap.size -> b ≠ p -> W10.heap[b]? = W9.heap[b]?:=fun b hbl hbp=>by
  rw [hW10]
  show (((W9.setCell ⟨p,7,none⟩ _).setCell ⟨p,8,none⟩ _).alloc _).heap[b]? = _
  rw [heap_alloc_lt _ _ (by simpa using hbl),heap_set_ne _ ⟨p,8,none⟩ _ hbp,heap_set_ne _ ⟨p,7,none⟩ _ hbp]
 have hrow10 : Row W10 p 159 (lcells p d (t + 1) (hF N (t + 1)) (hB N (t + 1)) (.slice A8 rs.length cp8) 0 (.slice (some ⟨W9.heap.size,0,none⟩) (encs rs).length cap)):=by
  have h3:=(H9.out.1.set 7 (.int .i64 0)).set 8 (.slice (some ⟨W9.heap.size,0,none⟩) (encs rs).length cap)
  refine h3.keep (w':=W10) ?_
  rw [hW10]
  show (((W9.setCell ⟨p,7,none⟩ _).setCell ⟨p,8,none⟩ _).alloc _).heap[p]? = _
  rw [heap_alloc_lt _ _ (by simpa using H9.out.1.lt)]
 have hkk : ∀ b,b < w8.heap.size -> b ≠ p -> W10.heap[b]? = w8.heap[b]?:=fun b hbl hbp=>(hk10 b (by rw [H9.out.2.1];exact hbl) hbp).trans (H9.out.2.2.1 b hbp)
 have hen : Reads W10 W10.heap.size 1 (some ⟨W9.heap.size,0,none⟩) (encs rs).length (Lib.byteCells (encs rs)):=by
  have h3:=bytes_reads ((W9.setCell ⟨p,7,none⟩ (.int .i64 0)).setCell ⟨p,8,none⟩ (.slice (some ⟨W9.heap.size,0,none⟩) (encs rs).length cap)) X cap ((bytesRow X cap).size,(bytesRow X cap).size + 1)
  rw [hez,HES.out] at h3
  simp only [World.size_setCell] at h3
  rw [hs10,<- H9.out.2.1,hW10]
  exact h3.drew
 obtain ⟨G10,hG10⟩ : ∃ G10 : Nat -> Prop,G10 = fun b=>G b \/ (w7.heap.size <= b /\ b < W10.heap.size):=⟨_,rfl⟩
 have hGlt:=H7.out.2.2.1.lt
 have hv8:=HV8.out.1
 have hL10 : LgR W10 G10 p d (t + 1) (hF N (t + 1)) (hB N (t + 1)) rs (.slice A8 rs.length cp8) 0 (some ⟨W9.heap.size,0,none⟩) (encs rs).length cap (encs rs):=by
  refine ⟨hrow10,own_keep (own_base hv8 (Nat.zero_le _)) fun g hg=>hkk g (hv8.lt g hg).2 (by have:=(hv8.lt g hg).1;intro e;subst e;exact absurd this (by show ¬ w7.heap.size <= g;omega)),hen,⟨hc1,hc2⟩,fun g hg=>?_,fun ad e=>?_,fun e=>(by cases e),by rw [hG10];exact .inl H7.out.2.2.1.gp,fun b hb=>?_⟩
  ·have h1 : w7.heap.size <= g:=(hv8.lt g hg).1
   have h2:=(hv8.lt g hg).2
   rw [hG10]
   exact ⟨by omega,.inr ⟨h1,by omega⟩⟩
  ·injection e with e
   subst e
   rw [hG10]
   have:=H9.out.2.1
   exact ⟨by show W9.heap.size ≠ p;omega,.inr ⟨by show w7.heap.size <= W9.heap.size;omega,by show W9.heap.size < _;omega⟩⟩
  ·rw [hG10] at hb
   rcases hb with hb | hb
   ·have:=hGlt b hb
    omega
   ·exact hb.2
 have hT10 : Turn G w7 G10 W10:=by
  refine ⟨?_,?_,?_,by omega,fun b hbl hbG=>?_,fun b hb=>?_⟩
  ·rw [hW10];exact H9.out.2.2.2.1.trans hb8.os
  ·rw [hW10];exact H9.out.2.2.2.2.1.trans hb8.tape
  ·rw [hW10];exact H9.out.2.2.2.2.2.trans hb8.output
  ·rw [hkk b (by omega) (fun e=>hbG (e ▸ H7.out.2.2.1.gp))]
   exact hb8.block b hbl
  ·rw [hG10] at hb
   exact hb.imp id fun h=>h.1
 have hD10:=H7.out.1.turn hT10 H6.out.2.2.2.1
 have hap10:=apart_right hT10 H6.out.2.2.2.1 H7.out.1.lt
 have HZ:=Lib.hid (And.intro hL10 (And.intro hT10 (And.intro hD10 hap10)))
 clear hL10 hT10 hD10 hap10 hG10 hen hkk hrow10 hk10 hv8 hb8 hGlt
 refine (settle_any HZ.out.1 (by omega) (by omega)).mono ?_
 rintro e w11 ⟨rfl,G11,A11,c11,hL11,hT11⟩
 have H11:=Lib.hid (And.intro hL11 hT11)
 clear hL11 hT11
 go_wp2_with fail
 go_ret
 have hmem : LgW w11 G11 p d (t + 1) (hF N (t + 1)) (hB N (t + 1)) rs (.slice A8 rs.length cp8) (0 + (encs rs).length / 128) A11 ((encs rs).length - 128 * ((encs rs).length / 128)) c11 ((encs rs).drop (128 * (0 + (encs rs).length / 128))):=by
  have:=H11.out.1
  simp only [Nat.zero_add] at this ⊢
  exact this
 have T4 : Turn (Un F G) w (Un F G) w4:=Turn.below _ H4.out.2
 have T5:=T4.trans (H5.out.2.2.2.2.2.1.left G)
 have T6:=T5.trans (H6.out.2.2.2.2.2.1.left G)
 have T7:=T6.trans (H7.out.2.2.2.2.left G)
 have T11:=(T7.trans (HZ.out.2.1.right F6)).trans (H11.out.2.right F6)
 exact ⟨rfl,F6,G11,0 + (encs rs).length / 128,_,⟨HZ.out.2.2.1.turn H11.out.2 HZ.out.2.2.2,⟨_,_,_,_,hmem⟩,apart_right H11.out.2 HZ.out.2.2.2 HZ.out.2.2.1.lt,HOK.out,by omega⟩,T11⟩
end
end
section
open Go Go.RowKit
structure LogF (w : World) (B : Nat) (F G : Nat -> Prop) (p d N t st : Nat) (R : List (List UInt8)) (sr : Nat) (su : List ByteArray) (l : List (Nat × ByteArray)) : Prop where
 log : LogS w F G p d N t st R sr su l
 far : ∀ b,Un F G b -> B <= b
 tab : Tab w B
section
variable {w w' V V' : World} {F F' G G' : Nat -> Prop} {p d N t st B : Nat} {R R' : List (List UInt8)} {sr : Nat} {su : List ByteArray} {l : List (Nat × ByteArray)} {A : Option Addr} {n : Nat}
theorem LogF.below (h : LogF w B F G p d N t st R sr su l) (hb : Below w.heap.size w w') : LogF w' B F G p d N t st R sr su l:=⟨h.log.below hb,h.far,h.tab.on (hb.mono h.tab.le)⟩
theorem LogF.next {p' d' N' t' st' sr' : Nat} {R' : List (List UInt8)} {su' : List ByteArray} {l' : List (Nat × ByteArray)} (h : LogF w B F G p d N t st R sr su l) (h' : LogS w' F' G' p' d' N' t' st' R' sr' su' l') (T : Turn (Un F G) w (Un F' G') w') : LogF w' B F' G' p' d' N' t' st' R' sr' su' l' /\ Below B w w' :=
 ⟨⟨h',T.far h.far h.tab.le,h.tab.on (T.down h.far h.tab.le)⟩,T.down h.far h.tab.le⟩
theorem fail_any (h : LogF w B F G p d N t st R sr su l) (hl : l.length <= 1000000) (keep torn : Int) (hk1 : -9223372036854775808 <= keep) (hk2 : keep <= 9223372036854775807) (ht1 : -9223372036854775808 <= torn) (ht2 : torn <= 9223372036854775807) :
  Calls Tryz.prog 30 #[.pointer (some ⟨d,0,none⟩),.int .i64 keep,.int .i64 torn] w fun e w'=>e = .returned (.int .i64 0) /\ Disk w' F d N (failP l su keep torn) [] /\ Turn F w F w' /\ Tab w' B /\ Below B w w':=by
 refine (a_fail h.log.disk hl keep torn hk1 hk2 ht1 ht2).mono ?_
 rintro e w' ⟨rfl,hD,hT⟩
 have hF : ∀ b,F b -> B <= b:=fun b hb=>h.far b (.inl hb)
 have hdn:=hT.down hF h.tab.le
 exact ⟨rfl,hD,hT,h.tab.on hdn,hdn⟩
theorem logf_all (h : LogF w B F G p d N t st R sr su l) : Calls Tryz.prog 56 #[.pointer (some ⟨p,0,none⟩)] w fun e w'=>∃ A n c,e = .returned (.slice A n c) /\ n = R.length /\ n <= maxLen /\ Reads w' w'.heap.size 1 A n (strL R) /\ Below w.heap.size w w':=by
 obtain ⟨vr,A,m,c,hM⟩:=h.log.mem
 have hc:=encs_count R
 have hf:=h.log.ok.fit
 have hs:=h.log.stB.2
 refine (lall_any hM.toLgR (by omega)).mono ?_
 rintro e w' ⟨v,rfl,hv,hb⟩
 obtain ⟨A',c',rfl,h1,h2⟩:=own_shape hv
 exact ⟨A',R.length,c',rfl,rfl,by omega,Reads.of_own hv,hb⟩
theorem LogF.lt (h : LogF w B F G p d N t st R sr su l) : ∀ b,Un F G b -> b < w.heap.size:=fun b hb=>by
 obtain ⟨vr,A,m,c,hM⟩:=h.log.mem
 exact hb.elim (h.log.disk.lt b) (hM.lt b)
theorem logt_add (h : LogF w B F G p d N t st R sr su l) (r : List UInt8) (hr : r.length <= 32768) (hfit : (encs R).length + (r.length + 14) <= 128 * hB N t) (hl : l.length <= 900000) : Calls Tryz.prog 86 #[.pointer (some ⟨p,0,none⟩),.string ⟨r.toArray⟩] w fun e w' =>
  e = .returned (.int .i64 0) /\ ∃ F' G' l',LogF w' B F' G' p d N t st (R ++ [r]) sr su l' /\ l'.length <= l.length + 300 /\ Turn (Un F G) w (Un F' G') w':=by
 refine (add_ok h.log r hr hfit hl h.tab.t1).mono ?_
 rintro e w' ⟨rfl,F',G',l',hL,hl',hT⟩
 exact ⟨rfl,F',G',l',(h.next hL hT).1,hl',hT⟩
theorem logt_flush (h : LogF w B F G p d N t st R sr su l) (hl : l.length <= 900000) : Calls Tryz.prog 54 #[.pointer (some ⟨p,0,none⟩)] w fun e w' =>
  e = .returned (.int .i64 0) /\ ∃ F' G' st' su',LogF w' B F' G' p d N t st' R R.length su' [] /\ Turn (Un F G) w (Un F' G') w':=by
 refine (flush_any h.log hl).mono ?_
 rintro e w' ⟨rfl,F',G',st',hL,hT⟩
 exact ⟨rfl,F',G',st',_,(h.next hL hT).1,hT⟩
theorem logt_anew (h : LogF w B F G p d N t st R sr su l) (ht : t + 1 <= 1000000) (rs : List (List UInt8)) (A0 : Option Addr) (n0 c0 : Nat) (hR : Reads w w.heap.size 1 A0 n0 (strL rs)) (hA0 : ∀ ad,A0 = some ad -> 0 < n0 -> ¬ Un F G ad.block) (hn0 : n0 <= maxLen) (hs : ∀ r ∈ rs,r.length <= 32768) (hfit : (encs rs).length <= 128 * hB N (t + 1)) (hl : l.length <= 900000) (hP : Tabs w B) :
  Calls Tryz.prog 116 #[.pointer (some ⟨p,0,none⟩),.slice A0 n0 c0] w fun e w'=>e = .returned (.int .i64 0) /\ ∃ F' G' st' su',LogF w' B F' G' p d N (t + 1) st' rs rs.length su' [] /\ Turn (Un F G) w (Un F' G') w':=by
 refine (anew_ok h.log ht rs A0 n0 c0 hR hA0 hn0 hs hfit hl h.tab hP h.far).mono ?_
 rintro e w' ⟨rfl,F',G',st',su',hL,hT⟩
 exact ⟨rfl,F',G',st',su',(h.next hL hT).1,hT⟩
structure DskT (w : World) (B : Nat) (F : Nat -> Prop) (d N t : Nat) (R : List (List UInt8)) (sr : Nat) (su : List ByteArray) : Prop where
 disk : Disk w F d N su []
 at_ : ∃ m,DiskD N t R m su /\ sr <= wh R m
 far : ∀ b,F b -> B <= b
 tab : Tab w B
theorem logt_fail (h : LogF w B F G p d N t st R sr su l) (hl : l.length <= 1000000) (keep torn : Int) (hk1 : -9223372036854775808 <= keep) (hk2 : keep <= 9223372036854775807) (ht1 : -9223372036854775808 <= torn) (ht2 : torn <= 9223372036854775807) :
  Calls Tryz.prog 30 #[.pointer (some ⟨d,0,none⟩),.int .i64 keep,.int .i64 torn] w fun e w'=>e = .returned (.int .i64 0) /\ DskT w' B F d N t R sr (failP l su keep torn) /\ Turn F w F w':=by
 refine (fail_any h hl keep torn hk1 hk2 ht1 ht2).mono ?_
 rintro e w' ⟨rfl,hD,hT,ht,hb⟩
 obtain ⟨m,h1,h2,h3⟩:=h.log.ok.fail keep torn
 exact ⟨rfl,⟨hD,⟨m,h1,h2⟩,fun b hb=>h.far b (.inl hb),ht⟩,hT⟩
theorem logt_open (h : DskT w B F d N t R sr su) (hN : N <= 4000) : Calls Tryz.prog 53 #[.pointer (some ⟨d,0,none⟩)] w fun e w' =>
  ∃ p F' G' st' su' m,e = .returned (.tuple #[.pointer (some ⟨p,0,none⟩),.int .i64 0]) /\ sr <= m /\ m <= R.length /\ LogF w' B F' G' p d N t st' (R.take m) m su' [] /\ Turn F w (Un F' G') w':=by
 obtain ⟨m,hd,hm⟩:=h.at_
 refine (open_any h.disk hd hN h.tab.t1).mono ?_
 rintro e w' ⟨p,F',G',st',rfl,hL,hTn⟩
 have hle:=(wh_len R m).1
 have hlen : (R.take (wh R m)).length = wh R m:=by rw [List.length_take];omega
 have hdn:=hTn.down h.far h.tab.le
 rw [hlen] at hL
 exact ⟨p,F',G',st',_,wh R m,rfl,hm,hle,⟨hL,hTn.far h.far h.tab.le,h.tab.on hdn⟩,hTn⟩
theorem LogF.keep (h : LogF w B F G p d N t st R sr su l) (hk : ∀ b,Un F G b -> w'.heap[b]? = w.heap[b]?) (hs : w.heap.size <= w'.heap.size) (hb : Below B w w') : LogF w' B F G p d N t st R sr su l :=
 ⟨⟨h.log.disk.keep (fun b hb=>hk b (.inl hb)) hs,by
  obtain ⟨vr,A,m,c,hM⟩:=h.log.mem
  exact ⟨vr,A,m,c,hM.keep (fun b hb=>hk b (.inr hb)) hs⟩,h.log.apart,h.log.ok,h.log.stE⟩,h.far,h.tab.on hb⟩
end
end
end Go.Proofs.YtegjjhjgfkcbhaaGreatDoor
