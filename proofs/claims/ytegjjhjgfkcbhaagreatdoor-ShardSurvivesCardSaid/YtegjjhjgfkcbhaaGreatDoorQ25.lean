/- SAdd SDrop SDo. Conditions: as each part says. -/
import Derived.Test.YtegjjhjgfkcbhaaGreatDoorQ23
import Derived.Test.YtegjjhjgfkcbhaaGreatDoorQ20
import Derived.WalkArith
import Derived.Carry
set_option linter.unusedVariables false
set_option linter.unusedSimpArgs false
set_option maxRecDepth 100000
set_option maxHeartbeats 16000000
namespace Go.Proofs.YtegjjhjgfkcbhaaGreatDoor
section
open Go Go.RowKit
section
variable {w w' : World} {F Ft : Nat -> Prop} {g t p : Nat} {k : KS}
theorem s64_wf {n : Int} (h : Be.S64 n) : (Lit.int .i64 n).wf = true:=by
 have:=h.1
 have:=h.2
 simp [Lit.wf,IntKind.min,IntKind.max,IntKind.signed,IntKind.bits]
 omega
structure GoW (w wr : World) (F Ft : Nat -> Prop) (g t p : Nat) (k : KS) (r : Rec) (A : Option Addr) (n c : Nat) (l : List Pt) : Prop where
 kept : KeptR wr F Ft g t p k
 row : Row wr w.heap.size 107 (rcl r (.slice A n c))
 pts : Pts wr w.heap.size A n l
 nX : ¬ F w.heap.size
 le : w.heap.size < wr.heap.size
theorem GoW.below {w wr w' : World} {F Ft : Nat -> Prop} {g t p : Nat} {k : KS} {r : Rec} {A : Option Addr} {n c : Nat} {l : List Pt} (h : GoW w wr F Ft g t p k r A n c l) (hb : Below wr.heap.size wr w') : GoW w w' F Ft g t p k r A n c l :=
 ⟨h.kept.below hb,h.row.keep (hb.block _ h.le),h.pts.below (hb.mono (Nat.le_of_lt h.le)),h.nX,Nat.lt_of_lt_of_le h.le hb.size⟩
def Away (F : Nat -> Prop) (l : List Pt) (A : Option Addr) : Prop:=(∀ ad,A = some ad -> ¬ F ad.block) /\ ∀ q ∈ l,∀ ad,q.2.1.1 = some ad -> ¬ F ad.block
theorem pts_turn {w w' : World} {F F' : Nat -> Prop} {B n : Nat} {A : Option Addr} {l : List Pt} (h : Pts w B A n l) (hB : B <= w.heap.size) (T : Turn F w F' w') (ha : Away F l A) : Pts w' B A n l:=by
 refine ⟨⟨h.row.1,fun hn=>?_⟩,fun q hq=>⟨⟨⟨(h.good q hq).1.1.1,fun hn=>?_⟩,(h.good q hq).1.2⟩,(h.good q hq).2⟩⟩
 ·obtain ⟨ad,e,hb,hc⟩:=h.row.2 hn
  exact ⟨ad,e,hb,fun j u hu=>(World.cell?_of_block (a:=ad.add j) (by rw [block_of_add];exact T.block _ (by omega) (ha.1 ad e))).trans (hc j u hu)⟩
 ·obtain ⟨ad,e,hb,hc⟩:=(h.good q hq).1.1.2 hn
  exact ⟨ad,e,hb,fun j u hu=>(World.cell?_of_block (a:=ad.add j) (by rw [block_of_add];exact T.block _ (by omega) (ha.2 q hq ad e))).trans (hc j u hu)⟩
theorem kins_any (h : KeptR w F Ft g t p k) (hv0 : 0 <= k.vr) (hv1 : k.vr <= 1000000000) (r : Rec) (A : Option Addr) (n c : Nat) (q : Pt) (hP : Pts w w.heap.size A n [q]) (ha : Away F [q] A) (h3 : Be.S64 q.1) (h4 : ck q.2.2 k.dm = 0) (h5 : hasT q.1 k.T = true \/ k.T.length < 512) :
  Calls Tryz.prog 176 #[.pointer (some ⟨g,0,none⟩),.agg #[.int .i64 r.kd,.int .i64 r.st,.int .i64 r.ep,.int .i64 r.mv,.int .i64 r.vr,.int .i64 r.dm,.int .i64 r.cl,.int .i64 r.sq,.string r.tb,.slice A n c]] w
   (DoPost F g t (insK k r.cl r.sq (bareP q)) w):=by
 obtain ⟨W,hW⟩ : ∃ W,w.alloc (.cells #[.int .i64 r.kd,.int .i64 r.st,.int .i64 r.ep,.int .i64 r.mv,.int .i64 r.vr,.int .i64 r.dm,.int .i64 r.cl,.int .i64 r.sq,.string r.tb,.slice A n c] 107) = W:=⟨_,rfl⟩
 have hbW : Below w.heap.size w W:=by rw [<- hW];exact (Below.refl _ _).alloc (Nat.le_refl _) _
 have hX : Row W w.heap.size 107 (rcl r (.slice A n c)):=by rw [<- hW];exact Row.new w 107 (rcl r (.slice A n c))
 have hn1 : n = 1:=hP.len
 subst hn1
 have hG : GoW w W F Ft g t p k r A 1 c [q]:=⟨h.below hbW,hX,hP.below hbW,fun hF=>by have:=h.lt _ hF;omega,hX.lt⟩
 have c9 : W.cell? ⟨w.heap.size,9,none⟩ = some (.slice A 1 c):=hX.cell rfl
 have hxl:=hX.lt
 obtain ⟨qx,⟨qA,qn,qc⟩,ql⟩:=q
 obtain ⟨ad,rfl,hadB,_,hc1,hc2,⟨hgR,hgm⟩,hgw⟩:=(hP.below hbW).at_ (k:=0) (by omega)
 simp only [ptAt,List.getD_cons_zero,Nat.zero_mul] at hc1 hc2 hgR hgm
 rw [show ad.add 0 = ad by unfold Addr.add;simp] at hc1 hc2
 simp only at h3 h4 h5
 have H0:=Lib.hid h
 have HG:=Lib.hid hG
 have HA:=Lib.hid ha
 have HB:=Lib.hid hbW
 have HWl:=Lib.hid hW
 have HR:=Lib.hid hgR
 clear h hX hbW hW hP hG ha hgR hgw
 have hbV : Below W.heap.size W (W.alloc (.cells #[.int .i64 qx,.slice qA qn qc] 104)):=(Below.refl _ _).alloc (Nat.le_refl _) _
 obtain ⟨V,hV⟩ : ∃ V,W.alloc (.cells #[.int .i64 qx,.slice qA qn qc] 104) = V:=⟨_,rfl⟩
 have hVr : Row V W.heap.size 104 [.int .i64 qx,.slice qA qn qc]:=by rw [<- hV];exact Row.new W 104 _
 rw [hV] at hbV
 have HV:=Lib.hid hV
 have HGV:=Lib.hid (HG.out.below hbV)
 have g5:=HGV.out.kept.c5
 have v0 : V.cell? ⟨W.heap.size,0,none⟩ = some (.int .i64 qx):=hVr.cell rfl
 have v1 : V.cell? ⟨W.heap.size,1,none⟩ = some (.slice qA qn qc):=hVr.cell rfl
 have hVl:=hVr.lt
 have hgl:=HGV.out.kept.gl
 have hgl0:=HG.out.kept.gl
 have hAf : ∀ ad',qA = some ad' -> ¬ Ft ad'.block:=fun ad' e hF=>HA.out.2 _ (List.mem_cons_self ..) ad' e (H0.out.sub _ hF)
 have HPt:=Lib.hid (show ∀ m,Calls Tryz.prog 205 #[.pointer (some ⟨t,0,none⟩),point qx qA qn qc] (V.drewN m) _ from fun m=>t_put (HGV.out.kept.drewN m).tree (s64_wf h3) ((HR.out.below (hbV.mono (Nat.le_of_lt hxl))).drewN m) (Nat.le_of_lt HGV.out.le) hgm hAf h4 h5)
 have HVr:=Lib.hid hVr
 clear hVr hV hAf
 go_enter Tryz.func176,Tryz.ntmps176
 go_wp2_with fail
 rw [HWl.out]
 go_loopw [11] (fun i wr=>(i = .int .i64 0 /\ W = wr) \/ (i = .int .i64 1 /\ ∃ F' Ft' p',KeptR wr F' Ft' g t p' (insK k r.cl r.sq (qx,ql)) /\ Turn F w F' wr)) (fun i _=>1 - (intOf i).toNat)
 case atStart=>exact .inl ⟨rfl,rfl⟩
 case round =>
  rcases hrel with ⟨rfl,hwr⟩ | ⟨rfl,F',Ft',p',hk',hT'⟩
  ·subst hwr
   go_wp2_with fail
   rw [HV.out]
   go_region_held3 (fun w'=>w'.cell? ⟨g,5,none⟩ = some (.pointer (some ⟨t,0,none⟩)) /\ w'.cell? ⟨W.heap.size,0,none⟩ = some (.int .i64 qx) /\ w'.cell? ⟨W.heap.size,1,none⟩ = some (.slice qA qn qc))
    (first | exact ⟨g5,v0,v1⟩ | exact ⟨g5',v0',v1'⟩ | go_keep)
    ((go_at_call 205;refine (HPt.out 1).mono ?_;rintro e w2 ⟨rfl,F2,ht2,hT2⟩;obtain ⟨h2,hT2'⟩:=(HGV.out.kept.drewN 1).atTree ht2 hT2;have hV2:=HVr.out.keep (hT2.block W.heap.size hVl (fun hF=>by have:=HG.out.kept.lt _ (HG.out.kept.sub _ hF);omega));have g5':=h2.c5;have v0' : w2.cell? ⟨W.heap.size,0,none⟩ = some (.int .i64 qx):=hV2.cell rfl;have v1' : w2.cell? ⟨W.heap.size,1,none⟩ = some (.slice qA qn qc):=hV2.cell rfl))
   have hXt : ¬ Ft w.heap.size:=fun hF=>HG.out.nX (HG.out.kept.sub _ hF)
   have hR2 : Row w2 w.heap.size 107 (rcl r (.slice (some ad) 1 c)):=HGV.out.row.keep (hT2.block _ (Nat.lt_of_lt_of_le HGV.out.le (Nat.le_refl _)) hXt)
   obtain ⟨e0,e1,e2,e3,e4,e5,e6,e7,e8,e9⟩:=rec_cells hR2
   have HN:=Lib.hid (knote_any h2 hv0 hv1 r (.slice (some ad) 1 c) (hasT qx k.T))
   have H2:=Lib.hid h2
   have HT2:=Lib.hid hT2'
   have hxl2:=hR2.lt
   clear h2 hT2 hT2' ht2 hV2 hR2
   go_wp2_with fail
   refine HN.out.mono ?_
   rintro e w3 ⟨rfl,h3',hT3⟩
   go_wp2_with fail
   refine ⟨.inr ⟨rfl,_,_,p,h3',?_⟩,by simp [intOf]⟩
   exact ((((Turn.below F HB.out).trans (Turn.below F hbV)).trans (Turn.drewN F V 1)).trans HT2.out).trans hT3
  ·go_wp2_with fail
   go_end0
   exact ⟨rfl,F',Ft',p',hk',hT'⟩
end
end
section
open Go Go.RowKit
section
variable {w w' : World} {F Ft : Nat -> Prop} {g t p : Nat} {k : KS}
theorem kdrop_any (h : KeptR w F Ft g t p k) (hv0 : 0 <= k.vr) (hv1 : k.vr <= 1000000000) (r : Rec) (A : Option Addr) (n c : Nat) (q : Pt) (hP : Pts w w.heap.size A n [q]) (ha : Away F [q] A) (h3 : Be.S64 q.1) :
  Calls Tryz.prog 177 #[.pointer (some ⟨g,0,none⟩),.agg #[.int .i64 r.kd,.int .i64 r.st,.int .i64 r.ep,.int .i64 r.mv,.int .i64 r.vr,.int .i64 r.dm,.int .i64 r.cl,.int .i64 r.sq,.string r.tb,.slice A n c]] w
   (DoPost F g t (dropK k r.cl r.sq q.1) w):=by
 obtain ⟨W,hW⟩ : ∃ W,w.alloc (.cells #[.int .i64 r.kd,.int .i64 r.st,.int .i64 r.ep,.int .i64 r.mv,.int .i64 r.vr,.int .i64 r.dm,.int .i64 r.cl,.int .i64 r.sq,.string r.tb,.slice A n c] 107) = W:=⟨_,rfl⟩
 have hbW : Below w.heap.size w W:=by rw [<- hW];exact (Below.refl _ _).alloc (Nat.le_refl _) _
 have hX : Row W w.heap.size 107 (rcl r (.slice A n c)):=by rw [<- hW];exact Row.new w 107 (rcl r (.slice A n c))
 have hn1 : n = 1:=hP.len
 subst hn1
 have hG : GoW w W F Ft g t p k r A 1 c [q]:=⟨h.below hbW,hX,hP.below hbW,fun hF=>by have:=h.lt _ hF;omega,hX.lt⟩
 have c9 : W.cell? ⟨w.heap.size,9,none⟩ = some (.slice A 1 c):=hX.cell rfl
 have hxl:=hX.lt
 obtain ⟨qx,⟨qA,qn,qc⟩,ql⟩:=q
 obtain ⟨ad,rfl,hadB,_,hc1,hc2,⟨hgR,hgm⟩,hgw⟩:=(hP.below hbW).at_ (k:=0) (by omega)
 simp only [ptAt,List.getD_cons_zero,Nat.zero_mul] at hc1 hc2 hgR hgm
 rw [show ad.add 0 = ad by unfold Addr.add;simp] at hc1 hc2
 simp only at h3
 have H0:=Lib.hid h
 have HG:=Lib.hid hG
 have HA:=Lib.hid ha
 have HB:=Lib.hid hbW
 have HWl:=Lib.hid hW
 have HR:=Lib.hid hgR
 clear h hX hbW hW hP hG ha hgR hgw
 have hbV : Below W.heap.size W (W.alloc (.cells #[.int .i64 qx,.slice qA qn qc] 104)):=(Below.refl _ _).alloc (Nat.le_refl _) _
 obtain ⟨V,hV⟩ : ∃ V,W.alloc (.cells #[.int .i64 qx,.slice qA qn qc] 104) = V:=⟨_,rfl⟩
 have hVr : Row V W.heap.size 104 [.int .i64 qx,.slice qA qn qc]:=by rw [<- hV];exact Row.new W 104 _
 rw [hV] at hbV
 have HV:=Lib.hid hV
 have HGV:=Lib.hid (HG.out.below hbV)
 have g5:=HGV.out.kept.c5
 have v0 : V.cell? ⟨W.heap.size,0,none⟩ = some (.int .i64 qx):=hVr.cell rfl
 have v1 : V.cell? ⟨W.heap.size,1,none⟩ = some (.slice qA qn qc):=hVr.cell rfl
 have hVl:=hVr.lt
 have hgl:=HGV.out.kept.gl
 have hgl0:=HG.out.kept.gl
 have HPt:=Lib.hid (show Calls Tryz.prog 207 #[.pointer (some ⟨t,0,none⟩),.int .i64 qx] V.drew (fun e w'=>e = .returned (.bool (hasT qx k.T)) /\ Tree w' Ft t k.dm (delT qx k.T) /\ Turn Ft V.drew Ft w') from t_drop (HGV.out.kept.drewN 1).tree (s64_wf h3))
 have HVr:=Lib.hid hVr
 have hR2 : Row V w.heap.size 107 (rcl r (.slice (some ad) 1 c)):=HGV.out.row
 obtain ⟨e0,e1,e2,e3,e4,e5,e6,e7,e8,e9⟩:=rec_cells hR2
 have hxl2:=hR2.lt
 have HR2:=Lib.hid hR2
 have HA1:=Lib.hid (show ∀ w2,(Tree w2 Ft t k.dm (delT qx k.T) /\ Turn Ft V.drew Ft w2) -> (w2.cell? ⟨g,5,none⟩ = some (.pointer (some ⟨t,0,none⟩)) /\ w2.cell? ⟨W.heap.size,0,none⟩ = some (.int .i64 qx) /\ w2.cell? ⟨w.heap.size,0,none⟩ = some (.int .i64 r.kd) /\ w2.cell? ⟨w.heap.size,1,none⟩ = some (.int .i64 r.st) /\ w2.cell? ⟨w.heap.size,2,none⟩ = some (.int .i64 r.ep) /\ w2.cell? ⟨w.heap.size,3,none⟩ = some (.int .i64 r.mv) /\ w2.cell? ⟨w.heap.size,4,none⟩ = some (.int .i64 r.vr) /\ w2.cell? ⟨w.heap.size,5,none⟩ = some (.int .i64 r.dm) /\ w2.cell? ⟨w.heap.size,6,none⟩ = some (.int .i64 r.cl) /\ w2.cell? ⟨w.heap.size,7,none⟩ = some (.int .i64 r.sq) /\ w2.cell? ⟨w.heap.size,8,none⟩ = some (.string r.tb) /\ w2.cell? ⟨w.heap.size,9,none⟩ = some (.slice (some ad) 1 c)) /\ Calls Tryz.prog 206 #[.pointer (some ⟨g,0,none⟩),.agg #[.int .i64 r.kd,.int .i64 r.st,.int .i64 r.ep,.int .i64 r.mv,.int .i64 r.vr,.int .i64 r.dm,.int .i64 r.cl,.int .i64 r.sq,.string r.tb,.slice (some ad) 1 c],.bool (hasT qx k.T)] w2 (fun e w3=>e = .returned (.tuple #[]) /\ KeptR w3 (fun b=>F b \/ Ft b) Ft g t p (dropK k r.cl r.sq qx) /\ Turn (fun b=>F b \/ Ft b) w2 (fun b=>F b \/ Ft b) w3) /\
  ∀ w3,(KeptR w3 (fun b=>F b \/ Ft b) Ft g t p (dropK k r.cl r.sq qx) /\ Turn (fun b=>F b \/ Ft b) w2 (fun b=>F b \/ Ft b) w3) -> (w3.cell? ⟨g,5,none⟩ = some (.pointer (some ⟨t,0,none⟩)) /\ w3.cell? ⟨W.heap.size,0,none⟩ = some (.int .i64 qx) /\ w3.cell? ⟨w.heap.size,0,none⟩ = some (.int .i64 r.kd) /\ w3.cell? ⟨w.heap.size,1,none⟩ = some (.int .i64 r.st) /\ w3.cell? ⟨w.heap.size,2,none⟩ = some (.int .i64 r.ep) /\ w3.cell? ⟨w.heap.size,3,none⟩ = some (.int .i64 r.mv) /\ w3.cell? ⟨w.heap.size,4,none⟩ = some (.int .i64 r.vr) /\ w3.cell? ⟨w.heap.size,5,none⟩ = some (.int .i64 r.dm) /\ w3.cell? ⟨w.heap.size,6,none⟩ = some (.int .i64 r.cl) /\ w3.cell? ⟨w.heap.size,7,none⟩ = some (.int .i64 r.sq) /\ w3.cell? ⟨w.heap.size,8,none⟩ = some (.string r.tb) /\ w3.cell? ⟨w.heap.size,9,none⟩ = some (.slice (some ad) 1 c)) /\ KeptR w3 (fun b=>F b \/ Ft b) Ft g t p (dropK k r.cl r.sq qx) /\ Turn F V (fun b=>F b \/ Ft b) w3 from fun w2 hp=>by
  obtain ⟨ht2,hT2⟩:=hp
  obtain ⟨h2,hT2'⟩:=(HGV.out.kept.drewN 1).atTree ht2 hT2
  have hnX : ¬ Ft w.heap.size:=fun hF=>HG.out.nX (HG.out.kept.sub _ hF)
  have hnV : ∀ {Z : Nat -> Prop},(∀ b,Z b -> F b \/ Ft b) -> ¬ Z W.heap.size:=fun hz hF=>by
   rcases hz _ hF with h1 | h1
   ·have:=HG.out.kept.lt _ h1
    omega
   ·have:=HG.out.kept.lt _ (HG.out.kept.sub _ h1)
    omega
  have hV2:=HVr.out.keep (hT2.block W.heap.size hVl (hnV fun b hb=>.inr hb))
  have hX2:=HR2.out.keep (hT2.block _ hxl2 hnX)
  refine ⟨⟨h2.c5,hV2.cell rfl,rec_cells hX2⟩,knote_any h2 hv0 hv1 r (.slice (some ad) 1 c) (hasT qx k.T),fun w3 hp3=>?_⟩
  obtain ⟨h3',hT3⟩:=hp3
  have hX3:=hX2.keep (hT3.block _ hX2.lt (fun hF=>hF.elim HG.out.nX hnX))
  have hV3:=hV2.keep (hT3.block _ hV2.lt (hnV fun b hb=>hb))
  exact ⟨⟨h3'.c5,hV3.cell rfl,rec_cells hX3⟩,h3',((Turn.drewN F V 1).trans hT2').trans hT3⟩)
 clear hVr hV hR2
 go_enter Tryz.func177,Tryz.ntmps177
 go_wp2_with fail
 rw [HWl.out]
 go_loopw [9] (fun i wr=>(i = .int .i64 0 /\ W = wr) \/ (i = .int .i64 1 /\ ∃ F' Ft' p',KeptR wr F' Ft' g t p' (dropK k r.cl r.sq qx) /\ Turn F w F' wr)) (fun i _=>1 - (intOf i).toNat)
 case atStart=>exact .inl ⟨rfl,rfl⟩
 case round =>
  rcases hrel with ⟨rfl,hwr⟩ | ⟨rfl,F',Ft',p',hk',hT'⟩
  ·subst hwr
   go_wp2_with fail
   rw [HV.out]
   go_region_held3 (fun w'=>w'.cell? ⟨g,5,none⟩ = some (.pointer (some ⟨t,0,none⟩)) /\ w'.cell? ⟨W.heap.size,0,none⟩ = some (.int .i64 qx) /\ w'.cell? ⟨w.heap.size,0,none⟩ = some (.int .i64 r.kd) /\ w'.cell? ⟨w.heap.size,1,none⟩ = some (.int .i64 r.st) /\ w'.cell? ⟨w.heap.size,2,none⟩ = some (.int .i64 r.ep) /\ w'.cell? ⟨w.heap.size,3,none⟩ = some (.int .i64 r.mv) /\ w'.cell? ⟨w.heap.size,4,none⟩ = some (.int .i64 r.vr) /\ w'.cell? ⟨w.heap.size,5,none⟩ = some (.int .i64 r.dm) /\ w'.cell? ⟨w.heap.size,6,none⟩ = some (.int .i64 r.cl) /\ w'.cell? ⟨w.heap.size,7,none⟩ = some (.int .i64 r.sq) /\ w'.cell? ⟨w.heap.size,8,none⟩ = some (.string r.tb) /\ w'.cell? ⟨w.heap.size,9,none⟩ = some (.slice (some ad) 1 c))
    (first | exact ⟨g5,v0,e0,e1,e2,e3,e4,e5,e6,e7,e8,e9⟩ | exact HS3.out | exact HS2.out | go_keep)
    (first
     | (go_at_call 207;with_reducible refine HPt.out.mono ?_;intro e w2 hpost;obtain ⟨rfl,hpost⟩:=hpost;have HD:=Lib.hid (HA1.out w2 hpost);have HS2:=Lib.hid HD.out.1;clear hpost)
     | (go_at_call 206;with_reducible refine HD.out.2.1.mono ?_;intro e w3 hpost;obtain ⟨rfl,hpost⟩:=hpost;have HE:=Lib.hid (HD.out.2.2 w3 hpost);have HS3:=Lib.hid HE.out.1;clear hpost))
   go_wp2_with fail
   exact ⟨.inr ⟨rfl,_,_,p,HE.out.2.1,((Turn.below F HB.out).trans (Turn.below F hbV)).trans HE.out.2.2⟩,by simp [intOf]⟩
  ·go_wp2_with fail
   go_end0
   exact ⟨rfl,F',Ft',p',hk',hT'⟩
end
end
section
open Go Go.RowKit Go.Maps
abbrev tdeed : TypeId:=214
theorem zeroF (w : World) : (zeroValue 212).run Tryz.prog w = .ok (.nilFunc) w:=by kernel_rfl
def fnv (n : Nat) : Value:=.func (.func n) #[] #[]
theorem MapAt.lookF {w : World} {b : Nat} {E : List Ent} (h : MapAt w b E) {x : Int} (hx : (Lit.int .i64 x).wf = true) :
  (isId x E = true -> ∃ v l,(x,v,l) ∈ E /\ (Instr.lookup 214 (.map (some b)) (.int .i64 x) true).run Tryz.prog w = .ok (.tuple #[v,.bool true]) w):=by
 obtain ⟨D,ho,hD⟩:=h
 obtain ⟨v,ps,hrun,hv⟩:=ho.look_ok law3 Tryz.underlying214 (zeroF w) (zd:=.held (.nilFunc)) (zp:=[]) rfl (key_of hx)
 rw [hD.has] at hrun
 have hv:=hR_inj hv
 intro hi
 obtain ⟨⟨y,u,l⟩,hp,rfl⟩:=(isId_iff _ _).1 hi
 have e:=hD.at_ _ hp (.held (.nilFunc))
 have hv2:=DataW.held.inj (e.symm.trans hv)
 subst hv2
 rw [hi] at hrun
 exact ⟨_,l,hp,hrun⟩
section
variable {ops : Array Oper} {rest : List Oper} {o : Oper} {a : Act} {Q : Exit -> Act -> World -> Prop} {W : World}
theorem wpList_insF (hgd : o.guard = none) (m k v : Operand) (hop : o.op = Op.insert tdeed m k v) (b : Nat) (E : List Ent) (x : Int) (val : Value)
  (hm : a.eval m = .map (some b)) (h : MapAt W b E) (hl : E.length <= 1000) (hx : a.eval k = .int .i64 x) (hv : a.eval v = val) (hw : (Lit.int .i64 x).wf = true) (hn : isId x E = false)
  (hK : ∀ w',MapAt w' b ((x,val,[]) :: E) -> W.grownBy w' (some b) -> wpList Tryz.prog ops Q rest (a.put o.dst undef) w') : wpList Tryz.prog ops Q (o :: rest) a W:=by
 obtain ⟨D,ho,hD⟩:=h
 obtain ⟨w',hrun,r1,r2⟩:=ho.update law3 Tryz.underlying214 (by unfold maxLen;omega) (key_of hw) (show hR val = some (.held val,[]) from rfl)
 refine wpList_plain hgd fun K' hK'=>?_
 unfold Oper.wp
 simp [execOp,hop,hm,hx,hv,hrun,Result.andThen]
 exact hK' _ _ (hK w' (MapAt.of r1 (hD.put x val [] hn)) r2)
end
def deedE : List Ent:=[(5,fnv 177,[]),(4,fnv 176,[]),(3,fnv 175,[]),(2,fnv 174,[]),(1,fnv 173,[])]
def DeedPost (w : World) (e : Ending) (w' : World) : Prop:=∃ b,e = .returned (.map (some b)) /\ MapAt w' b deedE /\ Below w.heap.size w w'
theorem deeds_any (w : World) : Calls Tryz.prog 139 #[] w (DeedPost w):=by
 have hmm:=@run_makeMap Tryz.prog
 have h0 : MapAt (w.alloc (.map #[] 0)) w.heap.size []:=MapAt.of (World.ownsMap_made w _ _ _) MapIs.nil
 have hb0 : Below w.heap.size w (w.alloc (.map #[] 0)):=(Below.refl _ _).alloc (Nat.le_refl _) _
 have H0:=Lib.hid h0
 have HB:=Lib.hid hb0
 clear h0 hb0
 go_enter Tryz.func139,Tryz.ntmps139
 go_wp2_with (first
  | (refine wpList_insF rfl _ _ _ rfl w.heap.size [] 1 (fnv 173) rfl H0.out (by simp) rfl rfl (by decide) (by decide) ?_;intro w1 h1 hg1)
  | (refine wpList_insF rfl _ _ _ rfl w.heap.size _ 2 (fnv 174) rfl h1 (by simp) rfl rfl (by decide) (by decide) ?_;intro w2 h2 hg2;clear h1)
  | (refine wpList_insF rfl _ _ _ rfl w.heap.size _ 3 (fnv 175) rfl h2 (by simp) rfl rfl (by decide) (by decide) ?_;intro w3 h3 hg3;clear h2)
  | (refine wpList_insF rfl _ _ _ rfl w.heap.size _ 4 (fnv 176) rfl h3 (by simp) rfl rfl (by decide) (by decide) ?_;intro w4 h4 hg4;clear h3)
  | (refine wpList_insF rfl _ _ _ rfl w.heap.size _ 5 (fnv 177) rfl h4 (by simp) rfl rfl (by decide) (by decide) ?_;intro w5 h5 hg5;clear h4))
 go_ret
 refine ⟨_,rfl,h5,?_⟩
 have g1:=HB.out.grown hg1 HB.out.size (fun k e=>by cases e;exact Nat.le_refl _)
 have g2:=g1.grown hg2 g1.size (fun k e=>by cases e;exact Nat.le_refl _)
 have g3:=g2.grown hg3 g2.size (fun k e=>by cases e;exact Nat.le_refl _)
 have g4:=g3.grown hg4 g3.size (fun k e=>by cases e;exact Nat.le_refl _)
 exact g4.grown hg5 g4.size (fun k e=>by cases e;exact Nat.le_refl _)
theorem lookK {w : World} {b : Nat} (h : MapAt w b deedE) {x : Int} {v : Value} (hx : (Lit.int .i64 x).wf = true) (hi : isId x deedE = true) (hv : ∀ u l,(x,u,l) ∈ deedE -> u = v) :
  (Instr.lookup 214 (.map (some b)) (.int .i64 x) true).run Tryz.prog w = .ok (.tuple #[v,.bool true]) w:=by
 obtain ⟨u,l,hm,hr⟩:=h.lookF hx hi
 rw [hv u l hm] at hr
 exact hr
theorem rec_box (w : World) (r : Rec) (sl : Value) : Row (w.alloc (.cells #[.int .i64 r.kd,.int .i64 r.st,.int .i64 r.ep,.int .i64 r.mv,.int .i64 r.vr,.int .i64 r.dm,.int .i64 r.cl,.int .i64 r.sq,.string r.tb,sl] 107)) w.heap.size 107 (rcl r sl):=Row.new w 107 (rcl r sl)
theorem kdo_kwhole {w : World} {F : Nat -> Prop} {g t : Nat} {k' : KS} (r : Rec) (sl : Value) (hkd : r.kd = 1) (hC : ∀ w',Below w.heap.size w w' -> Calls Tryz.prog 173 #[.pointer (some ⟨g,0,none⟩),.agg #[.int .i64 r.kd,.int .i64 r.st,.int .i64 r.ep,.int .i64 r.mv,.int .i64 r.vr,.int .i64 r.dm,.int .i64 r.cl,.int .i64 r.sq,.string r.tb,sl]] w' (DoPost F g t k' w')) :
  Calls Tryz.prog 88 #[.pointer (some ⟨g,0,none⟩),.agg #[.int .i64 r.kd,.int .i64 r.st,.int .i64 r.ep,.int .i64 r.mv,.int .i64 r.vr,.int .i64 r.dm,.int .i64 r.cl,.int .i64 r.sq,.string r.tb,sl]] w (DoPost F g t k' w):=by
 obtain ⟨W,hW⟩ : ∃ W,w.alloc (.cells #[.int .i64 r.kd,.int .i64 r.st,.int .i64 r.ep,.int .i64 r.mv,.int .i64 r.vr,.int .i64 r.dm,.int .i64 r.cl,.int .i64 r.sq,.string r.tb,sl] 107) = W:=⟨_,rfl⟩
 have hbW : Below w.heap.size w W:=by rw [<- hW];exact (Below.refl _ _).alloc (Nat.le_refl _) _
 have hX : Row W w.heap.size 107 (rcl r sl):=by rw [<- hW];exact rec_box w r sl
 have c0 : W.cell? ⟨w.heap.size,0,none⟩ = some (.int .i64 r.kd):=hX.cell rfl
 have hxl:=hX.lt
 have HD:=Lib.hid (show Calls Tryz.prog 139 #[] W.drew (DeedPost W.drew) from deeds_any W.drew)
 have HA:=Lib.hid (show ∀ w2 b,MapAt w2 b deedE -> Below W.drew.heap.size W.drew w2 -> w2.cell? ⟨w.heap.size,0,none⟩ = some (.int .i64 r.kd) /\ Row w2 w.heap.size 107 (rcl r sl) /\ (Instr.lookup 214 (.map (some b)) (.int .i64 r.kd) true).run Tryz.prog w2 = .ok (.tuple #[.func (.func 173) #[] #[],.bool true]) w2 from fun w2 b hm hb=>by
  have h2 : Row w2 w.heap.size 107 (rcl r sl):=hX.keep (hb.block _ hxl)
  exact ⟨h2.cell rfl,h2,lookK hm (by rw [hkd];decide) (by rw [hkd];decide) (by rw [hkd];intro u l hm;simp [deedE] at hm;exact hm.1)⟩)
 have HC:=Lib.hid hC
 have HB:=Lib.hid hbW
 have HWl:=Lib.hid hW
 clear hX hbW hW hC hkd
 go_enter Tryz.func88,Tryz.ntmps88
 go_wp2_with fail
 rw [HWl.out]
 go_region_held3 (fun w'=>w'.cell? ⟨w.heap.size,0,none⟩ = some (.int .i64 r.kd))
  (first | exact c0 | exact HE.out.1 | go_keep)
  ((go_at_call 139;with_reducible refine HD.out.mono ?_;intro e w2 hpost;unfold DeedPost at hpost;obtain ⟨b,rfl,hm2,hb2⟩:=hpost;have HE:=Lib.hid (HA.out w2 b hm2 hb2);have hlk : (Instr.lookup 214 (.map (some b)) (.int .i64 r.kd) true).run Tryz.prog w2 = .ok (.tuple #[.func (.func 173) #[] #[],.bool true]) w2:=HE.out.2.2;have HB2:=Lib.hid hb2;clear hm2 hb2))
 obtain ⟨e0,e1,e2,e3,e4,e5,e6,e7,e8,e9⟩:=rec_cells HE.out.2.1
 have hxl2:=HE.out.2.1.lt
 have HC2:=Lib.hid (HC.out w2 ((HB.out.trans (Below.drew (Below.refl _ _))).trans (HB2.out.mono HB.out.size)))
 have HB3:=Lib.hid (show Below w.heap.size w w2 from (HB.out.trans (Below.drew (Below.refl _ _))).trans (HB2.out.mono HB.out.size))
 go_wp2_with fail
 refine HC2.out.mono ?_
 rintro e w3 ⟨rfl,F',Ft',p',hk3,hT3⟩
 go_wp2_with fail
 go_end0
 exact ⟨rfl,F',Ft',p',hk3,(Turn.below F HB3.out).trans hT3⟩
theorem kdo_kstand {w : World} {F : Nat -> Prop} {g t : Nat} {k' : KS} (r : Rec) (sl : Value) (hkd : r.kd = 3) (hC : ∀ w',Below w.heap.size w w' -> Calls Tryz.prog 175 #[.pointer (some ⟨g,0,none⟩),.agg #[.int .i64 r.kd,.int .i64 r.st,.int .i64 r.ep,.int .i64 r.mv,.int .i64 r.vr,.int .i64 r.dm,.int .i64 r.cl,.int .i64 r.sq,.string r.tb,sl]] w' (DoPost F g t k' w')) :
  Calls Tryz.prog 88 #[.pointer (some ⟨g,0,none⟩),.agg #[.int .i64 r.kd,.int .i64 r.st,.int .i64 r.ep,.int .i64 r.mv,.int .i64 r.vr,.int .i64 r.dm,.int .i64 r.cl,.int .i64 r.sq,.string r.tb,sl]] w (DoPost F g t k' w):=by
 obtain ⟨W,hW⟩ : ∃ W,w.alloc (.cells #[.int .i64 r.kd,.int .i64 r.st,.int .i64 r.ep,.int .i64 r.mv,.int .i64 r.vr,.int .i64 r.dm,.int .i64 r.cl,.int .i64 r.sq,.string r.tb,sl] 107) = W:=⟨_,rfl⟩
 have hbW : Below w.heap.size w W:=by rw [<- hW];exact (Below.refl _ _).alloc (Nat.le_refl _) _
 have hX : Row W w.heap.size 107 (rcl r sl):=by rw [<- hW];exact rec_box w r sl
 have c0 : W.cell? ⟨w.heap.size,0,none⟩ = some (.int .i64 r.kd):=hX.cell rfl
 have hxl:=hX.lt
 have HD:=Lib.hid (show Calls Tryz.prog 139 #[] W.drew (DeedPost W.drew) from deeds_any W.drew)
 have HA:=Lib.hid (show ∀ w2 b,MapAt w2 b deedE -> Below W.drew.heap.size W.drew w2 -> w2.cell? ⟨w.heap.size,0,none⟩ = some (.int .i64 r.kd) /\ Row w2 w.heap.size 107 (rcl r sl) /\ (Instr.lookup 214 (.map (some b)) (.int .i64 r.kd) true).run Tryz.prog w2 = .ok (.tuple #[.func (.func 175) #[] #[],.bool true]) w2 from fun w2 b hm hb=>by
  have h2 : Row w2 w.heap.size 107 (rcl r sl):=hX.keep (hb.block _ hxl)
  exact ⟨h2.cell rfl,h2,lookK hm (by rw [hkd];decide) (by rw [hkd];decide) (by rw [hkd];intro u l hm;simp [deedE] at hm;exact hm.1)⟩)
 have HC:=Lib.hid hC
 have HB:=Lib.hid hbW
 have HWl:=Lib.hid hW
 clear hX hbW hW hC hkd
 go_enter Tryz.func88,Tryz.ntmps88
 go_wp2_with fail
 rw [HWl.out]
 go_region_held3 (fun w'=>w'.cell? ⟨w.heap.size,0,none⟩ = some (.int .i64 r.kd))
  (first | exact c0 | exact HE.out.1 | go_keep)
  ((go_at_call 139;with_reducible refine HD.out.mono ?_;intro e w2 hpost;unfold DeedPost at hpost;obtain ⟨b,rfl,hm2,hb2⟩:=hpost;have HE:=Lib.hid (HA.out w2 b hm2 hb2);have hlk : (Instr.lookup 214 (.map (some b)) (.int .i64 r.kd) true).run Tryz.prog w2 = .ok (.tuple #[.func (.func 175) #[] #[],.bool true]) w2:=HE.out.2.2;have HB2:=Lib.hid hb2;clear hm2 hb2))
 obtain ⟨e0,e1,e2,e3,e4,e5,e6,e7,e8,e9⟩:=rec_cells HE.out.2.1
 have hxl2:=HE.out.2.1.lt
 have HC2:=Lib.hid (HC.out w2 ((HB.out.trans (Below.drew (Below.refl _ _))).trans (HB2.out.mono HB.out.size)))
 have HB3:=Lib.hid (show Below w.heap.size w w2 from (HB.out.trans (Below.drew (Below.refl _ _))).trans (HB2.out.mono HB.out.size))
 go_wp2_with fail
 refine HC2.out.mono ?_
 rintro e w3 ⟨rfl,F',Ft',p',hk3,hT3⟩
 go_wp2_with fail
 go_end0
 exact ⟨rfl,F',Ft',p',hk3,(Turn.below F HB3.out).trans hT3⟩
theorem kdo_kins {w : World} {F : Nat -> Prop} {g t : Nat} {k' : KS} (r : Rec) (sl : Value) (hkd : r.kd = 4) (hC : ∀ w',Below w.heap.size w w' -> Calls Tryz.prog 176 #[.pointer (some ⟨g,0,none⟩),.agg #[.int .i64 r.kd,.int .i64 r.st,.int .i64 r.ep,.int .i64 r.mv,.int .i64 r.vr,.int .i64 r.dm,.int .i64 r.cl,.int .i64 r.sq,.string r.tb,sl]] w' (DoPost F g t k' w')) :
  Calls Tryz.prog 88 #[.pointer (some ⟨g,0,none⟩),.agg #[.int .i64 r.kd,.int .i64 r.st,.int .i64 r.ep,.int .i64 r.mv,.int .i64 r.vr,.int .i64 r.dm,.int .i64 r.cl,.int .i64 r.sq,.string r.tb,sl]] w (DoPost F g t k' w):=by
 obtain ⟨W,hW⟩ : ∃ W,w.alloc (.cells #[.int .i64 r.kd,.int .i64 r.st,.int .i64 r.ep,.int .i64 r.mv,.int .i64 r.vr,.int .i64 r.dm,.int .i64 r.cl,.int .i64 r.sq,.string r.tb,sl] 107) = W:=⟨_,rfl⟩
 have hbW : Below w.heap.size w W:=by rw [<- hW];exact (Below.refl _ _).alloc (Nat.le_refl _) _
 have hX : Row W w.heap.size 107 (rcl r sl):=by rw [<- hW];exact rec_box w r sl
 have c0 : W.cell? ⟨w.heap.size,0,none⟩ = some (.int .i64 r.kd):=hX.cell rfl
 have hxl:=hX.lt
 have HD:=Lib.hid (show Calls Tryz.prog 139 #[] W.drew (DeedPost W.drew) from deeds_any W.drew)
 have HA:=Lib.hid (show ∀ w2 b,MapAt w2 b deedE -> Below W.drew.heap.size W.drew w2 -> w2.cell? ⟨w.heap.size,0,none⟩ = some (.int .i64 r.kd) /\ Row w2 w.heap.size 107 (rcl r sl) /\ (Instr.lookup 214 (.map (some b)) (.int .i64 r.kd) true).run Tryz.prog w2 = .ok (.tuple #[.func (.func 176) #[] #[],.bool true]) w2 from fun w2 b hm hb=>by
  have h2 : Row w2 w.heap.size 107 (rcl r sl):=hX.keep (hb.block _ hxl)
  exact ⟨h2.cell rfl,h2,lookK hm (by rw [hkd];decide) (by rw [hkd];decide) (by rw [hkd];intro u l hm;simp [deedE] at hm;exact hm.1)⟩)
 have HC:=Lib.hid hC
 have HB:=Lib.hid hbW
 have HWl:=Lib.hid hW
 clear hX hbW hW hC hkd
 go_enter Tryz.func88,Tryz.ntmps88
 go_wp2_with fail
 rw [HWl.out]
 go_region_held3 (fun w'=>w'.cell? ⟨w.heap.size,0,none⟩ = some (.int .i64 r.kd))
  (first | exact c0 | exact HE.out.1 | go_keep)
  ((go_at_call 139;with_reducible refine HD.out.mono ?_;intro e w2 hpost;unfold DeedPost at hpost;obtain ⟨b,rfl,hm2,hb2⟩:=hpost;have HE:=Lib.hid (HA.out w2 b hm2 hb2);have hlk : (Instr.lookup 214 (.map (some b)) (.int .i64 r.kd) true).run Tryz.prog w2 = .ok (.tuple #[.func (.func 176) #[] #[],.bool true]) w2:=HE.out.2.2;have HB2:=Lib.hid hb2;clear hm2 hb2))
 obtain ⟨e0,e1,e2,e3,e4,e5,e6,e7,e8,e9⟩:=rec_cells HE.out.2.1
 have hxl2:=HE.out.2.1.lt
 have HC2:=Lib.hid (HC.out w2 ((HB.out.trans (Below.drew (Below.refl _ _))).trans (HB2.out.mono HB.out.size)))
 have HB3:=Lib.hid (show Below w.heap.size w w2 from (HB.out.trans (Below.drew (Below.refl _ _))).trans (HB2.out.mono HB.out.size))
 go_wp2_with fail
 refine HC2.out.mono ?_
 rintro e w3 ⟨rfl,F',Ft',p',hk3,hT3⟩
 go_wp2_with fail
 go_end0
 exact ⟨rfl,F',Ft',p',hk3,(Turn.below F HB3.out).trans hT3⟩
theorem kdo_kdrop {w : World} {F : Nat -> Prop} {g t : Nat} {k' : KS} (r : Rec) (sl : Value) (hkd : r.kd = 5) (hC : ∀ w',Below w.heap.size w w' -> Calls Tryz.prog 177 #[.pointer (some ⟨g,0,none⟩),.agg #[.int .i64 r.kd,.int .i64 r.st,.int .i64 r.ep,.int .i64 r.mv,.int .i64 r.vr,.int .i64 r.dm,.int .i64 r.cl,.int .i64 r.sq,.string r.tb,sl]] w' (DoPost F g t k' w')) :
  Calls Tryz.prog 88 #[.pointer (some ⟨g,0,none⟩),.agg #[.int .i64 r.kd,.int .i64 r.st,.int .i64 r.ep,.int .i64 r.mv,.int .i64 r.vr,.int .i64 r.dm,.int .i64 r.cl,.int .i64 r.sq,.string r.tb,sl]] w (DoPost F g t k' w):=by
 obtain ⟨W,hW⟩ : ∃ W,w.alloc (.cells #[.int .i64 r.kd,.int .i64 r.st,.int .i64 r.ep,.int .i64 r.mv,.int .i64 r.vr,.int .i64 r.dm,.int .i64 r.cl,.int .i64 r.sq,.string r.tb,sl] 107) = W:=⟨_,rfl⟩
 have hbW : Below w.heap.size w W:=by rw [<- hW];exact (Below.refl _ _).alloc (Nat.le_refl _) _
 have hX : Row W w.heap.size 107 (rcl r sl):=by rw [<- hW];exact rec_box w r sl
 have c0 : W.cell? ⟨w.heap.size,0,none⟩ = some (.int .i64 r.kd):=hX.cell rfl
 have hxl:=hX.lt
 have HD:=Lib.hid (show Calls Tryz.prog 139 #[] W.drew (DeedPost W.drew) from deeds_any W.drew)
 have HA:=Lib.hid (show ∀ w2 b,MapAt w2 b deedE -> Below W.drew.heap.size W.drew w2 -> w2.cell? ⟨w.heap.size,0,none⟩ = some (.int .i64 r.kd) /\ Row w2 w.heap.size 107 (rcl r sl) /\ (Instr.lookup 214 (.map (some b)) (.int .i64 r.kd) true).run Tryz.prog w2 = .ok (.tuple #[.func (.func 177) #[] #[],.bool true]) w2 from fun w2 b hm hb=>by
  have h2 : Row w2 w.heap.size 107 (rcl r sl):=hX.keep (hb.block _ hxl)
  exact ⟨h2.cell rfl,h2,lookK hm (by rw [hkd];decide) (by rw [hkd];decide) (by rw [hkd];intro u l hm;simp [deedE] at hm;exact hm.1)⟩)
 have HC:=Lib.hid hC
 have HB:=Lib.hid hbW
 have HWl:=Lib.hid hW
 clear hX hbW hW hC hkd
 go_enter Tryz.func88,Tryz.ntmps88
 go_wp2_with fail
 rw [HWl.out]
 go_region_held3 (fun w'=>w'.cell? ⟨w.heap.size,0,none⟩ = some (.int .i64 r.kd))
  (first | exact c0 | exact HE.out.1 | go_keep)
  ((go_at_call 139;with_reducible refine HD.out.mono ?_;intro e w2 hpost;unfold DeedPost at hpost;obtain ⟨b,rfl,hm2,hb2⟩:=hpost;have HE:=Lib.hid (HA.out w2 b hm2 hb2);have hlk : (Instr.lookup 214 (.map (some b)) (.int .i64 r.kd) true).run Tryz.prog w2 = .ok (.tuple #[.func (.func 177) #[] #[],.bool true]) w2:=HE.out.2.2;have HB2:=Lib.hid hb2;clear hm2 hb2))
 obtain ⟨e0,e1,e2,e3,e4,e5,e6,e7,e8,e9⟩:=rec_cells HE.out.2.1
 have hxl2:=HE.out.2.1.lt
 have HC2:=Lib.hid (HC.out w2 ((HB.out.trans (Below.drew (Below.refl _ _))).trans (HB2.out.mono HB.out.size)))
 have HB3:=Lib.hid (show Below w.heap.size w w2 from (HB.out.trans (Below.drew (Below.refl _ _))).trans (HB2.out.mono HB.out.size))
 go_wp2_with fail
 refine HC2.out.mono ?_
 rintro e w3 ⟨rfl,F',Ft',p',hk3,hT3⟩
 go_wp2_with fail
 go_end0
 exact ⟨rfl,F',Ft',p',hk3,(Turn.below F HB3.out).trans hT3⟩
end
end Go.Proofs.YtegjjhjgfkcbhaaGreatDoor
