/- WPut WAbs WPt WNear. Conditions: as each part says. -/
import Derived.Test.YtegjjhjgfkcbhaaGreatDoorQ19
import Derived.Carry
import Derived.Deep.RegionHeld3
import Derived.Test.YtegjjhjgfkcbhaaGreatDoorQ26
set_option linter.unusedVariables false
set_option linter.unusedSimpArgs false
set_option maxRecDepth 100000
set_option maxHeartbeats 16000000
namespace Go.Proofs.YtegjjhjgfkcbhaaGreatDoor
section
open Go Go.RowKit Go.Maps
section
variable {w w' : World} {F : Nat -> Prop} {t bm fm dim : Nat} {rv : Value} {N : NT} {B U : List Ent}
theorem pbox (w : World) (c0 c1 : Value) : Row (w.alloc (.cells #[c0,c1] 104)) w.heap.size 104 [c0,c1]:=Row.new w 104 [c0,c1]
theorem ck_len {l : List Int} {dim : Nat} (h : ck l dim = 0) : okV l = true /\ l.length = dim:=by
 obtain ⟨h1,h2⟩:=(ck_zero l dim).1 h
 exact ⟨h1,by omega⟩
theorem no_len {x : Int} (h : Apart B) (k : Apart U) : (noId x B).length + (noId x U).length + (if isId x B = true then 1 else 0) + (if isId x U = true then 1 else 0) = B.length + U.length:=by
 have h1:=noId_len (x:=x) h
 have h2:=noId_len (x:=x) k
 omega
theorem MapAt.apart {b : Nat} {E : List Ent} (h : MapAt w b E) : Apart E:=by
 obtain ⟨D,_,hD⟩:=h
 exact hD.apart
theorem isId_app (x : Int) (B U : List Ent) : isId x (B ++ U) = (isId x B || isId x U):=by simp [isId]
theorem isId_noId (x : Int) (E : List Ent) : isId x (noId x E) = false:=by
 rw [Bool.eq_false_iff,Ne,isId_iff]
 rintro ⟨p,hp,e⟩
 exact (noId_mem.1 hp).2 e
theorem TreeW.ins (h : TreeW w F t bm fm dim rv N B U) {x : Int} {v : Value} {l : List Int} {g : Nat} (hx : (Lit.int .i64 x).wf = true) (hl : ck l dim = 0) (i1 : isId x B = false) (hn : B.length + U.length < 512)
  (m : MapAt w' fm ((x,v,l) :: U)) (hg : w.grownBy w' (some fm)) (hv : VecIn w' (fun b=>b = g) v l) (hgF : ¬ F g) : TreeW w' (fun b=>F b \/ b = g) t bm fm dim rv N B ((x,v,l) :: U):=by
 obtain ⟨k1,k2⟩:=ck_len hl
 have far_ : ∀ b,Core F t bm fm b -> b < w.heap.size -> w'.heap[b]? = w.heap[b]?:=fun b hb hlt=>hg.block b hlt (by simpa using hb.2.2.2)
 have up : ∀ b,Core F t bm fm b -> Core (fun b=>F b \/ b = g) t bm fm b:=fun b hb=>⟨.inl hb.1,hb.2⟩
 have new : ∀ b,b = g -> Core (fun b=>F b \/ b = g) t bm fm b:=fun b hb=>⟨.inr hb,by subst hb;exact ⟨fun e=>hgF (e ▸ h.ft),fun e=>hgF (e ▸ h.fb),fun e=>hgF (e ▸ h.ff)⟩⟩
 have hm : ∀ p ∈ B ++ (x,v,l) :: U,p ∈ B ++ U \/ p = (x,v,l):=by
  intro p hp
  rcases List.mem_append.1 hp with hp | hp
  ·exact .inl (List.mem_append_left _ hp)
  ·rcases List.mem_cons.1 hp with rfl | hp
   ·exact .inr rfl
   ·exact .inl (List.mem_append_right _ hp)
 exact { h with
  box:=(hg.block t h.tlt (by simpa using h.e2)).trans h.box
  mb:=h.mb.keep (hg.block bm (h.lt bm h.fb) (by simpa using h.e3))
  mf:=m
  ok:=fun p hp=>by
   rcases hm p hp with hp | rfl
   ·exact h.ok p hp
   ·exact ⟨hx,k1,k2⟩
  vec:=fun p hp=>by
   rcases hm p hp with hp | rfl
   ·exact ((h.vec p hp).keep far_ hg.size).more (fun b hb _=>up b hb)
   ·exact hv.more (fun b hb _=>new b hb)
  apart:=fun p hp q hq=>by
   rcases List.mem_cons.1 hq with rfl | hq
   ·exact isId_no i1 p hp
   ·exact h.apart p hp q hq
  node:=(h.node.keep far_ hg.size).more (fun b hb _=>up b hb)
  len:=by simp only [List.length_cons];omega
  ft:=.inl h.ft
  fb:=.inl h.fb
  ff:=.inl h.ff
  lt:=fun b hb=>by
   rcases hb with hb | hb
   ·have:=h.lt b hb
    have:=hg.size
    omega
   ·obtain ⟨ad,c,_,hg2,hlt,_⟩:=hv
    omega }
def point (x : Int) (A : Option Addr) (n c : Nat) : Value:=.agg #[.int .i64 x,.slice A n c]
def PutPost (w : World) (F : Nat -> Prop) (t bm fm dim : Nat) (B U : List Ent) (x : Int) (l : List Int) (e : Ending) (w' : World) : Prop :=
 e = .returned (.tuple #[.bool (isId x (B ++ U)),.int .i64 0]) /\ ∃ F' rv' N' v',TreeW w' F' t bm fm dim rv' N' (noId x B) ((x,v',l) :: noId x U) /\ Turn F w F' w'
theorem row_turn {W : World} {g : Nat} {T : TypeId} {xs : List Value} {F F' : Nat -> Prop} (h : Row w g T xs) (k : Turn F w F' W) (hg : ¬ F g) : Row W g T xs:=h.keep (k.block g h.lt hg)
theorem TreeW.cell4 (h : TreeW w F t bm fm dim rv N B U) (hg : w.grownBy w' (some fm)) : Hid (w'.cell? ⟨t,4,none⟩ = some (.map (some fm))) :=
 Lib.hid ((World.cell?_of_block (hg.block t h.tlt (by simpa using h.e2))).trans h.c4)
theorem row_grown {W W' : World} {g row : Nat} {T : TypeId} {xs : List Value} (h : Row W g T xs) (hg : W.grownBy W' (some row)) (hne : g ≠ row) : Row W' g T xs:=h.keep (hg.block g h.lt (by simpa using hne))
theorem ins_run {W : World} {b : Nat} {E : List Ent} {x : Int} {val : Value} (l : List Int) (h : MapAt W b E) (hl : E.length <= 1000) (hw : (Lit.int .i64 x).wf = true) (hn : isId x E = false) :
  ∃ w',(Instr.mapUpdate 169 (.map (some b)) (.int .i64 x) val).run Tryz.prog W = .ok () w' /\ MapAt w' b ((x,val,l) :: E) /\ W.grownBy w' (some b):=by
 obtain ⟨D,ho,hD⟩:=h
 obtain ⟨w',hrun,h1,h2⟩:=ho.store law3 Tryz.underlying169 (by unfold maxLen;omega) (key_of hw) (val:=val) (d:=.held val) (ps:=[]) rfl
 exact ⟨w',hrun,MapAt.of h1 (hD.put x val l hn),h2.grown⟩
theorem mapin (h : TreeW w F t bm fm dim rv N B U) : MapAt w fm U:=h.mf
theorem vput_any (h : TreeW w F t bm fm dim rv N B U) {x : Int} {A : Option Addr} {n c C : Nat} {l : List Int} (hx : (Lit.int .i64 x).wf = true) (hR : Reads w C 1 A n (ints l)) (hC : C <= w.heap.size) (hn : n <= maxLen) (hA : ∀ ad,A = some ad -> ¬ F ad.block) (hk : ck l dim = 0)
  (hf : isId x (B ++ U) = true \/ B.length + U.length < 512) :
  Calls Tryz.prog 205 #[.pointer (some ⟨t,0,none⟩),point x A n c] w (PutPost w F t bm fm dim B U x l):=by
 have hr:=pbox w (.int .i64 x) (.slice A n c)
 have h0:=h.below ((Below.refl _ w).alloc (Nat.le_refl _) (.cells #[.int .i64 x,.slice A n c] 104))
 have T0 : Turn F w F (w.alloc (.cells #[.int .i64 x,.slice A n c] 104)):=Turn.alloc F w _
 have hR0:=hR.alloc hC (.cells #[.int .i64 x,.slice A n c] 104)
 have hgF : ¬ F w.heap.size:=fun hF=>by have:=h.lt _ hF;omega
 have hnl:=hR.len
 obtain ⟨ad,rfl,hab,_⟩:=hR.2 (by have:=(ck_len hk).1;rw [okV_iff] at this;omega)
 have hAd:=hA ad rfl
 have hsz : (noId x B).length + (noId x U).length < 512:=by
  have h1:=no_len (x:=x) h.mb.apart h.mf.apart
  have h2:=h.len
  rcases hf with hf | hf
  ·rw [isId_app] at hf
   rcases (Bool.or_eq_true ..).mp hf with hf | hf <;> rw [hf] at h1 <;> simp only [if_true] at h1 <;> omega
  ·omega
 have hab' : ad.block < w.heap.size:=by omega
 subst hnl
 unfold point
 generalize hW : w.alloc (.cells #[.int .i64 x,.slice (some ad) l.length c] 104) = W at *
 generalize hs : w.heap.size = s at *
 have HW:=Lib.hid hW
 have HS:=Lib.hid hs
 clear hW hs
 have hg:=vgiven_any h0
 have hl16 : l.length <= 16:=by have:=(ck_len hk).1;rw [okV_iff] at this;omega
 have HK:=Lib.hid hk
 generalize hm : l.length = m at *
 have HM:=Lib.hid hm
 clear hm
 go_enter Tryz.func205,Tryz.ntmps205
 go_wp2_with fail
 rw [HW.out,HS.out]
 refine hg.mono ?_
 rintro e w1 ⟨rfl,q,rfl⟩
 obtain ⟨w1,hw1⟩ : ∃ w1,w1 = W.drewN q:=⟨_,rfl⟩
 rw [<- hw1]
 have hc:=fun q=>check_any (some ad) m c C l dim (w1.drewN q) (by rw [hw1];exact (hR0.drewN _).drewN q) hn
 rw [hk] at hc
 have hr1 : Row w1 s 104 [.int .i64 x,.slice (some ad) m c]:=by rw [hw1];exact hr
 have h1 : TreeW w1 F t bm fm dim rv N B U:=by rw [hw1];exact h0.drewN q
 have hR1 : Reads w1 C 1 (some ad) m (ints l):=by rw [hw1];exact hR0.drewN q
 have T1 : Turn F w F w1:=by rw [hw1];exact T0.trans (Turn.drewN F W q)
 have b0:=hr1.cell (j:=0) rfl
 have b1:=hr1.cell (j:=1) rfl
 have hbl:=hr1.lt
 have c1:=h1.c1
 have hl:=h1.tlt
 have HF:=Lib.hid (And.intro h1 (And.intro T1 (And.intro hr1 hR1)))
 have HZ:=Lib.hid (And.intro hsz (And.intro hgF (And.intro hAd (And.intro hab hC))))
 clear h hR hR0 hr h0 T0 hg hf hA hsz hgF hAd hk hab hC hw1 hr1 h1 T1 hR1
 go_wp2_with fail
 go_quiet ((go_at_call 104;refine Calls.quiet_of (hc _)))
 obtain ⟨q2,rfl⟩ : ∃ q2,q2 = nq:=⟨_,rfl⟩
 go_wp2_with fail
 obtain ⟨w2,hw2⟩ : ∃ w2,w2 = w1.drewN q2:=⟨_,rfl⟩
 rw [<- hw2]
 have h2 : TreeW w2 F t bm fm dim rv N B U:=by rw [hw2];exact HF.out.1.drewN q2
 have T2 : Turn F w F w2:=by rw [hw2];exact HF.out.2.1.trans (Turn.drewN F w1 q2)
 have r2 : Row w2 s 104 [.int .i64 x,.slice (some ad) m c]:=by rw [hw2];exact HF.out.2.2.1
 have R2 : Reads w2 C 1 (some ad) m (ints l):=by rw [hw2];exact HF.out.2.2.2
 have d0:=r2.cell (j:=0) rfl
 have dl:=r2.lt
 have hd:=vdrop_any h2 hx
 have H2:=Lib.hid (And.intro h2 (And.intro T2 (And.intro r2 R2)))
 clear hw2 h2 T2 r2 R2 HF hc b0 b1 hbl c1 hl
 go_wp2_with fail
 refine hd.mono ?_
 rintro e w3 ⟨rfl,rv3,N3,h3,T3⟩
 have r3:=row_turn H2.out.2.2.1 T3 HZ.out.2.1
 have hs2 : s <= w2.heap.size:=H2.out.2.2.1.lt |> Nat.le_of_lt
 have R3 : Reads w3 C 1 (some ad) m (ints l):=⟨H2.out.2.2.2.1,fun hp=>by
  obtain ⟨ad',e,hb,hcc⟩:=H2.out.2.2.2.2 hp
  injection e with e
  subst e
  exact ⟨_,rfl,hb,fun j u hj=>(World.cell?_of_block (T3.block _ (by rw [block_of_add];have:=HZ.out.2.2.2.2;omega) (by rw [block_of_add];exact HZ.out.2.2.1))).trans (hcc j u hj)⟩⟩
 have hlen:=vlen_any h3
 have hsz3:=T3.size
 have H3:=Lib.hid (And.intro h3 (And.intro (H2.out.2.1.trans T3) (And.intro r3 (And.intro R3 (show C <= w3.heap.size by have:=HZ.out.2.2.2.2;omega)))))
 have hsm : ((((noId x B).length + (noId x U).length : Nat) : Int)) < 512:=by have:=HZ.out.1;omega
 clear h3 T3 H2 hd d0 dl r3 R3 hs2 hsz3
 generalize hk4 : ((((noId x B).length + (noId x U).length : Nat) : Int)) = k4 at *
 clear hk4
 go_wp2_with fail
 refine hlen.mono ?_
 rintro e w4 ⟨rfl,q4,rfl⟩
 obtain ⟨w5,hw5⟩ : ∃ w5,w5 = w3.drewN q4:=⟨_,rfl⟩
 rw [<- hw5]
 have h5 : TreeW w5 F t bm fm dim rv3 N3 (noId x B) (noId x U):=by rw [hw5];exact H3.out.1.drewN q4
 have T5 : Turn F w F w5:=by rw [hw5];exact H3.out.2.1.trans (Turn.drewN F w3 q4)
 have r5 : Row w5 s 104 [.int .i64 x,.slice (some ad) m c]:=by rw [hw5];exact H3.out.2.2.1
 have R5 : Reads w5 C 1 (some ad) l.length (ints l):=by rw [hw5,HM.out];exact H3.out.2.2.2.1
 have hC5 : C <= w5.heap.size:=by rw [hw5];exact H3.out.2.2.2.2
 have d0:=r5.cell (j:=0) rfl
 have d1:=r5.cell (j:=1) rfl
 have dl:=r5.lt
 have c4:=h5.c4
 have hl5:=h5.tlt
 have hcl:=icloned ad c C l w5.drew R5.drew hC5 (by rw [HM.out];omega)
 rw [HM.out] at hcl
 have H5:=Lib.hid (And.intro h5 T5)
 have HR5:=Lib.hid r5
 have HLM : 1 <= l.length:=by have:=(ck_len HK.out).1;rw [okV_iff] at this;omega
 have HL1:=Lib.hid HLM
 clear hw5 h5 T5 r5 R5 hC5 H3 hlen HLM
 go_wp2_with fail
 go_region_held3 (fun w'=>w'.cell? ⟨t,4,none⟩ = some (.map (some fm)) /\ w'.cell? ⟨s,0,none⟩ = some (.int .i64 x) /\ w'.cell? ⟨s,1,none⟩ = some (.slice (some ad) m c))
  (first | with_reducible exact ⟨f4,f0,f1⟩ | with_reducible exact ⟨e4,e0,e1⟩ | exact ⟨c4,d0,d1⟩)
  ((go_at_call 84;refine hcl.mono ?_;rintro e w6 ⟨v',rfl,hown,hb⟩;have h6:=(H5.out.1.drewN 1).below hb;have T6:=(H5.out.2.trans (Turn.drewN F w5 1)).trans (Turn.below F hb);obtain ⟨g,cap,rfl,hgb,hglt⟩:=hown.form (by have:=HL1.out;have:=HM.out;omega);have hv6 : VecIn w6 (fun b=>b = g) (.slice (some ⟨g,0,none⟩) m cap) l:=⟨⟨g,0,none⟩,cap,by rw [HM.out],rfl,hglt,hown.cells (g:=g) rfl⟩;have hgF : ¬ F g:=(fun hF=>absurd hgb (Nat.not_le.2 (H5.out.1.lt g hF)));have hm6:=mapin h6;have H6:=Lib.hid (And.intro h6 (And.intro T6 (And.intro hv6 (And.intro hgF hgb))));have hle : (noId x U).length <= 1000:=(by have:=h6.len;omega);have hno:=isId_noId x U;obtain ⟨w7,hrun7,m7,g7⟩:=ins_run (val:=.slice (some ⟨g,0,none⟩) m cap) l hm6 hle hx hno;have q6:=H5.out.1.lt s;have e4:=h6.c4;have r6:=HR5.out.keep (hb.block s HR5.out.lt);have e0:=r6.cell (j:=0) rfl;have e1:=r6.cell (j:=1) rfl;have f4:=(TreeW.cell4 h6 g7).out;have f0:=(row_grown r6 g7 (fun e=>HZ.out.2.1 (e ▸ H5.out.1.ff))).cell (j:=0) rfl;have f1:=(row_grown r6 g7 (fun e=>HZ.out.2.1 (e ▸ H5.out.1.ff))).cell (j:=1) rfl;have HG7:=Lib.hid (And.intro m7 g7);clear h6 T6 hv6 hgF hown hb q6 m7 g7 r6 hm6 hgb hle hno))
 have m7:=HG7.out.1
 have g7:=HG7.out.2
 go_wp2_with fail
 go_ret2
 have hF7 : ∀ b,b = g -> b < w6.heap.size -> w7.heap[b]? = w6.heap[b]?:=fun b hb hlt=>g7.block b hlt (by
  rw [hb]
  exact fun e=>by injection e with e;exact H6.out.2.2.2.1 (e ▸ H6.out.1.ff))
 refine ⟨rfl,fun b=>F b \/ b = g,rv3,N3,_,H6.out.1.ins hx HK.out (isId_noId x B) HZ.out.1 m7 g7 (H6.out.2.2.1.keep hF7 g7.size) H6.out.2.2.2.1,?_⟩
 have T7:=H6.out.2.1.trans (turn_grown g7 H6.out.1.ff)
 exact ⟨T7.os,T7.tape,T7.output,T7.size,T7.block,fun b hb=>hb.elim .inl (fun e=>.inr (by rw [e];exact Nat.le_trans H5.out.2.size H6.out.2.2.2.2))⟩
end
end
section
open Go Go.RowKit Go.Maps
abbrev Pnt:=Int × List Int
def hasT (x : Int) (T : List Pnt) : Bool:=T.any fun p=>decide (p.1 = x)
def delT (x : Int) (T : List Pnt) : List Pnt:=T.filter fun p=>decide (p.1 ≠ x)
def putT (x : Int) (l : List Int) (T : List Pnt) : List Pnt:=(T.filter fun p=>decide (p.1 < x)) ++ (x,l) :: T.filter fun p=>decide (x < p.1)
def Rise (T : List Pnt) : Prop:=T.Pairwise fun p q=>p.1 < q.1
theorem Rise.del {T : List Pnt} (h : Rise T) (x : Int) : Rise (delT x T):=h.filter _
theorem Rise.put {T : List Pnt} (h : Rise T) (x : Int) (l : List Int) : Rise (putT x l T):=by
 refine List.pairwise_append.2 ⟨h.filter _,List.pairwise_cons.2 ⟨fun q hq=>?_,h.filter _⟩,fun p hp q hq=>?_⟩
 ·exact of_decide_eq_true (List.mem_filter.1 hq).2
 ·have h1 : p.1 < x:=of_decide_eq_true (List.mem_filter.1 hp).2
  rcases List.mem_cons.1 hq with rfl | hq
  ·exact h1
  ·have h2 : x < q.1:=of_decide_eq_true (List.mem_filter.1 hq).2
   omega
theorem putT_perm (x : Int) (l : List Int) : ∀ T : List Pnt,(putT x l T).Perm ((x,l) :: delT x T)
 | []=>List.Perm.refl _
 | p :: r=>by
  have ih:=putT_perm x l r
  unfold putT delT at *
  rw [List.filter_cons,List.filter_cons,List.filter_cons]
  by_cases h1 : p.1 < x
  ·have h2 : ¬ x < p.1:=by omega
   have h3 : p.1 ≠ x:=by omega
   simp only [h1,h2,h3,decide_true,decide_false,if_true,if_false,ne_eq,not_false_eq_true,List.cons_append]
   exact (ih.cons p).trans (List.Perm.swap ..)
  ·by_cases h2 : x < p.1
   ·have h3 : p.1 ≠ x:=by omega
    simp only [h1,h2,h3,decide_true,decide_false,if_true,if_false,ne_eq,not_false_eq_true]
    have h4 : ∀ (a : List Pnt) (y : Pnt) (b : List Pnt),(a ++ y :: p :: b).Perm (p :: (a ++ y :: b)):=fun a y b=>by
     have:=(List.perm_middle (a:=p) (l₁:=a ++ [y]) (l₂:=b))
     simpa using this
    exact ((h4 _ _ _).trans (ih.cons p)).trans (List.Perm.swap ..)
   ·have h3 : decide (p.1 ≠ x) = false:=decide_eq_false (by omega)
    rw [h3]
    simp only [h1,h2,decide_false,if_false]
    exact ih
theorem hasT_iff (x : Int) (T : List Pnt) : hasT x T = true ↔ ∃ p ∈ T,p.1 = x:=by simp [hasT]
theorem hasT_perm {T : List Pnt} {E : List Ent} (h : T.Perm (E.map bare)) (x : Int) : hasT x T = isId x E:=by
 rw [Bool.eq_iff_iff,hasT_iff,isId_iff]
 constructor
 ·rintro ⟨p,hp,e⟩
  obtain ⟨q,hq,rfl⟩:=List.mem_map.1 (h.mem_iff.1 hp)
  exact ⟨q,hq,e⟩
 ·rintro ⟨q,hq,e⟩
  exact ⟨bare q,h.mem_iff.2 (List.mem_map.2 ⟨q,hq,rfl⟩),e⟩
theorem noId_map (x : Int) (E : List Ent) : (noId x E).map bare = delT x (E.map bare):=by
 unfold noId delT
 rw [List.filter_map]
 rfl
theorem noId_app (x : Int) (B U : List Ent) : noId x (B ++ U) = noId x B ++ noId x U:=by simp [noId]
theorem delT_perm {T : List Pnt} {E : List Ent} (h : T.Perm (E.map bare)) (x : Int) : (delT x T).Perm ((noId x E).map bare):=by
 rw [noId_map]
 exact h.filter _
theorem putT_perm' {T : List Pnt} {B U : List Ent} (h : T.Perm ((B ++ U).map bare)) (x : Int) (v : Value) (l : List Int) : (putT x l T).Perm ((noId x B ++ (x,v,l) :: noId x U).map bare):=by
 refine (putT_perm x l T).trans (((delT_perm h x).cons (x,l)).trans ?_)
 rw [noId_app]
 have:=(List.perm_middle (a:=((x,v,l) : Ent)) (l₁:=noId x B) (l₂:=noId x U)).symm
 exact this.map bare
section
variable {w w' : World} {F F' : Nat -> Prop} {t dim : Nat} {T : List Pnt}
theorem Tree.turn {G G' : Nat -> Prop} (h : Tree w F t dim T) (k : Turn G w G' w') (hd : ∀ b,F b -> ¬ G b) : Tree w' F t dim T:=by
 obtain ⟨⟨bm,fm,rv,N,B,U,hm,hp⟩,hr⟩:=h
 exact ⟨⟨bm,fm,rv,N,B,U,hm.turn k hd,hp⟩,hr⟩
theorem Tree.lt (h : Tree w F t dim T) : ∀ b,F b -> b < w.heap.size:=by
 obtain ⟨⟨bm,fm,rv,N,B,U,hm,hp⟩,hr⟩:=h
 exact hm.lt
theorem Tree.ft (h : Tree w F t dim T) : F t:=by
 obtain ⟨⟨bm,fm,rv,N,B,U,hm,hp⟩,hr⟩:=h
 exact hm.ft
theorem Tree.len (h : Tree w F t dim T) : T.length <= 512:=by
 obtain ⟨⟨bm,fm,rv,N,B,U,hm,hp⟩,hr⟩:=h
 rw [hp.length_eq]
 simpa using hm.len
theorem Tree.ok (h : Tree w F t dim T) : ∀ p ∈ T,(Lit.int .i64 p.1).wf = true /\ okV p.2 = true /\ p.2.length = dim:=by
 obtain ⟨⟨bm,fm,rv,N,B,U,hm,hp⟩,hr⟩:=h
 intro p hpT
 obtain ⟨q,hq,rfl⟩:=List.mem_map.1 (hp.mem_iff.1 hpT)
 exact hm.ok q hq
theorem t_len (h : Tree w F t dim T) : Calls Tryz.prog 117 #[.pointer (some ⟨t,0,none⟩)] w (Says (.int .i64 (T.length : Int)) w):=by
 obtain ⟨⟨bm,fm,rv,N,B,U,hm,hp⟩,hr⟩:=h
 have e : T.length = B.length + U.length:=by rw [hp.length_eq];simp
 rw [e]
 exact vlen_any hm
theorem t_drop (h : Tree w F t dim T) {x : Int} (hx : (Lit.int .i64 x).wf = true) : Calls Tryz.prog 207 #[.pointer (some ⟨t,0,none⟩),.int .i64 x] w fun e w'=>e = .returned (.bool (hasT x T)) /\ Tree w' F t dim (delT x T) /\ Turn F w F w':=by
 obtain ⟨⟨bm,fm,rv,N,B,U,hm,hp⟩,hr⟩:=h
 refine (vdrop_any hm hx).mono ?_
 rintro e w' ⟨rfl,rv',N',h',T'⟩
 exact ⟨by rw [hasT_perm hp],⟨⟨bm,fm,rv',N',_,_,h',by rw [<- noId_app];exact delT_perm hp x⟩,Rise.del hr x⟩,T'⟩
theorem t_put (h : Tree w F t dim T) {x : Int} {A : Option Addr} {n c C : Nat} {l : List Int} (hx : (Lit.int .i64 x).wf = true) (hR : Reads w C 1 A n (ints l)) (hC : C <= w.heap.size) (hn : n <= maxLen) (hA : ∀ ad,A = some ad -> ¬ F ad.block) (hk : ck l dim = 0) (hf : hasT x T = true \/ T.length < 512) :
  Calls Tryz.prog 205 #[.pointer (some ⟨t,0,none⟩),point x A n c] w fun e w'=>e = .returned (.tuple #[.bool (hasT x T),.int .i64 0]) /\ ∃ F',Tree w' F' t dim (putT x l T) /\ Turn F w F' w':=by
 obtain ⟨⟨bm,fm,rv,N,B,U,hm,hp⟩,hr⟩:=h
 have e : T.length = B.length + U.length:=by rw [hp.length_eq];simp
 refine (vput_any hm hx hR hC hn hA hk (by rw [<- hasT_perm hp];rw [<- e];exact hf)).mono ?_
 rintro e w' ⟨rfl,F',rv',N',v',h',T'⟩
 exact ⟨by rw [hasT_perm hp],F',⟨⟨bm,fm,rv',N',_,_,h',putT_perm' hp x v' l⟩,Rise.put hr x l⟩,T'⟩
end
def NewPost (w : World) (dim : Nat) (e : Ending) (w' : World) : Prop:=∃ F t,e = .returned (.tuple #[.pointer (some ⟨t,0,none⟩),.int .i64 0]) /\ Tree w' F t dim [] /\ (∀ b,F b -> w.heap.size <= b) /\ Below w.heap.size w w'
theorem vnew_any (dim : Nat) (w : World) (h1 : 1 <= dim) (h2 : dim <= 16) : Calls Tryz.prog 102 #[.int .i64 (dim : Int)] w (NewPost w dim):=by
 have hmm:=@run_makeMap Tryz.prog
 have z1 : ¬ (dim : Int) < 1:=by omega
 have z2 : ¬ (16 : Int) < (dim : Int):=by omega
 have HD:=Lib.hid (And.intro h1 h2)
 clear h1 h2
 go_enter Tryz.func102,Tryz.ntmps102
 go_wp2_with fail
 go_ret2
 have hb : Below w.heap.size w (((w.alloc (Obj.map #[] 0)).alloc (Obj.map #[] 0)).alloc (.cells #[.pointer (some ⟨w.heap.size + 1 + 1,0,none⟩),.int .i64 (dim : Int),.pointer none,.map (some w.heap.size),.map (some (w.heap.size + 1))] 171)) :=
  (((Below.refl _ w).alloc (Nat.le_refl _) _).alloc (by simp) _).alloc (by simp;omega) _
 refine ⟨fun b=>w.heap.size <= b /\ b < w.heap.size + 3,w.heap.size + 1 + 1,rfl,⟨⟨w.heap.size,w.heap.size + 1,.pointer none,NT.leaf,[],[],?_,List.Perm.refl _⟩,List.Pairwise.nil⟩,fun b hb=>hb.1,hb⟩
 have m1 : MapAt (w.alloc (Obj.map #[] 0)) w.heap.size []:=⟨.map [],World.ownsMap_made w Tryz.prog 3 hR,MapIs.nil⟩
 have m2 : MapAt ((w.alloc (Obj.map #[] 0)).alloc (Obj.map #[] 0)) (w.heap.size + 1) []:=by
  have:=World.ownsMap_made (w.alloc (Obj.map #[] 0)) Tryz.prog 3 hR
  exact ⟨.map [],by simpa using this,MapIs.nil⟩
 refine ⟨?_,?_,?_,HD.out.1,HD.out.2,by simp,by simp,by simp,rfl,trivial,List.Pairwise.nil,by simp,by simp,by omega,by omega,by omega,⟨by omega,by omega⟩,⟨by omega,by omega⟩,⟨by omega,by omega⟩,fun b hb=>by simp;omega⟩
 ·have:=heap_alloc_new ((w.alloc (Obj.map #[] 0)).alloc (Obj.map #[] 0)) (.cells #[.pointer (some ⟨w.heap.size + 1 + 1,0,none⟩),.int .i64 (dim : Int),.pointer none,.map (some w.heap.size),.map (some (w.heap.size + 1))] 171)
  simpa using this
 ·refine m1.keep ?_
  rw [heap_alloc_lt _ _ (by simp;omega),heap_alloc_lt _ _ (by simp)]
 ·refine m2.keep ?_
  rw [heap_alloc_lt _ _ (by simp)]
end
section
open Go Go.RowKit
theorem flat_len {α : Type} (enc : α -> List Value) (s : Nat) (he : ∀ x,(enc x).length = s) (l : List α) : (l.flatMap enc).length = l.length * s:=by
 induction l with
 | nil=>simp
 | cons x r ih=>simp only [List.flatMap_cons,List.length_append,ih,he,List.length_cons,Nat.add_mul];omega
abbrev Pt:=Int × (Option Addr × Nat × Nat) × List Int
def pcell (p : Pt) : List Value:=[.int .i64 p.1,.slice p.2.1.1 p.2.1.2.1 p.2.1.2.2]
def pts (l : List Pt) : List Value:=l.flatMap pcell
instance : Inhabited Pt:=⟨(0,(none,0,0),[])⟩
def bareP (p : Pt) : Pnt:=(p.1,p.2.2)
def slcP (p : Pt) : Value:=.slice p.2.1.1 p.2.1.2.1 p.2.1.2.2
def GoodP (w : World) (B : Nat) (p : Pt) : Prop:=(Reads w B 1 p.2.1.1 p.2.1.2.1 (ints p.2.2) /\ p.2.1.2.1 <= maxLen) /\ (Lit.int .i64 p.1).wf = true
structure Pts (w : World) (B : Nat) (A : Option Addr) (n : Nat) (l : List Pt) : Prop where
 row : Reads w B 2 A n (pts l)
 good : ∀ p ∈ l,GoodP w B p
theorem Pts.below {w w' : World} {B n : Nat} {A : Option Addr} {l : List Pt} (h : Pts w B A n l) (hb : Below B w w') : Pts w' B A n l:=⟨h.row.below hb,fun p hp=>⟨⟨(h.good p hp).1.1.below hb,(h.good p hp).1.2⟩,(h.good p hp).2⟩⟩
theorem Pts.more {w : World} {B B' n : Nat} {A : Option Addr} {l : List Pt} (h : Pts w B A n l) (hb : B <= B') : Pts w B' A n l:=⟨h.row.more hb,fun p hp=>⟨⟨(h.good p hp).1.1.more hb,(h.good p hp).1.2⟩,(h.good p hp).2⟩⟩
theorem Pts.len {w : World} {B n : Nat} {A : Option Addr} {l : List Pt} (h : Pts w B A n l) : n = l.length:=by
 have:=h.row.1
 unfold pts at this
 rw [flat_len pcell 2 (fun _=>rfl)] at this
 omega
def ptAt (l : List Pt) (k : Nat) : Pt:=l.getD k (0,(none,0,0),[])
theorem pts_at (l : List Pt) (k : Nat) (hk : k < l.length) : (pts l)[2 * k]? = some (.int .i64 (ptAt l k).1) /\ (pts l)[2 * k + 1]? = some (.slice (ptAt l k).2.1.1 (ptAt l k).2.1.2.1 (ptAt l k).2.1.2.2):=by
 unfold ptAt
 induction l generalizing k with
 | nil=>simp at hk
 | cons t r ih =>
  have e : pts (t :: r) = .int .i64 t.1 :: .slice t.2.1.1 t.2.1.2.1 t.2.1.2.2 :: pts r:=by simp [pts,pcell]
  rw [e]
  rcases k with _ | k
  ·simp
  ·have:=ih k (by simpa using hk)
   rw [show 2 * (k + 1) = 2 * k + 1 + 1 by omega]
   simpa using this
theorem ptAt_mem {l : List Pt} {k : Nat} (hk : k < l.length) : ptAt l k ∈ l:=by
 unfold ptAt
 rw [List.getD_eq_getElem?_getD,List.getElem?_eq_getElem hk]
 exact List.getElem_mem hk
theorem Pts.at_ {w : World} {B n k : Nat} {A : Option Addr} {l : List Pt} (h : Pts w B A n l) (hk : k < n) : ∃ ad,A = some ad /\ ad.block < B /\ k < l.length /\
  w.cell? (ad.add (k * 2)) = some (.int .i64 (ptAt l k).1) /\ w.cell? ⟨(ad.add (k * 2)).block,(ad.add (k * 2)).off + 1,none⟩ = some (.slice (ptAt l k).2.1.1 (ptAt l k).2.1.2.1 (ptAt l k).2.1.2.2) /\ GoodP w B (ptAt l k):=by
 have hl:=h.len
 have hk' : k < l.length:=by omega
 obtain ⟨ad,e,hb,hc⟩:=h.row.2 (by omega)
 obtain ⟨t1,t2⟩:=pts_at l k hk'
 refine ⟨ad,e,hb,hk',?_,?_,h.good _ (ptAt_mem hk')⟩
 ·rw [Nat.mul_comm]
  exact hc _ _ t1
 ·show w.cell? ((ad.add (k * 2)).add 1) = _
  rw [add_of_add,Nat.mul_comm]
  exact hc _ _ t2
end
section
open Go Go.RowKit Go.Maps
theorem vfar_any (A A' : Option Addr) (n m c c' B B' : Nat) (a b : List Int) (w : World) (hx : Reads w B 1 A n (ints a)) (hy : Reads w B' 1 A' m (ints b)) (ha : okV a = true) (hb : okV b = true) (hl : b.length = a.length) :
  Calls Tryz.prog 106 #[.slice A n c,.slice A' m c'] w (Says (.int .i64 (far a b)) w):=by
 have h16:=((okV_iff a).1 ha).2.1
 have lx:=hx.len
 have ly:=hy.len
 have hd:=dist_any A A' n m c c' B B' a b w hx hy (by unfold maxLen;omega) (by unfold maxLen;omega)
 rw [dstR_yes ⟨ha,hb,hl⟩] at hd
 unfold two at hd
 clear hx hy lx ly
 go_enter Tryz.func106,Tryz.ntmps106
 go_wp2_with fail
 refine hd.mono ?_
 rintro e w1 ⟨rfl,q,rfl⟩
 go_wp2_with fail
 go_ret
 exact ⟨rfl,q,rfl⟩
structure NearW (w : World) (bb base k : Nat) (lim : Int) (v : Value) (H : List Hit) : Prop where
 row : Row w bb 173 [.int .i64 (k : Int),.int .i64 lim,v]
 own : w.ownsRow base 91 2 v H.length (hits H)
 up : bb < base
 base_le : base <= w.heap.size
section
variable {w w' : World} {bb base k : Nat} {lim : Int} {v : Value} {H : List Hit}
theorem NearW.lt (h : NearW w bb base k lim v H) : bb < w.heap.size:=h.row.lt
theorem NearW.keep (h : NearW w bb base k lim v H) (hk : ∀ b,b = bb \/ v.ownBlock = some b -> w'.heap[b]? = w.heap[b]?) (hs : w.heap.size <= w'.heap.size) : NearW w' bb base k lim v H :=
 ⟨h.row.keep (hk bb (.inl rfl)),own_keep h.own (fun g hg=>hk g (.inr hg)),h.up,Nat.le_trans h.base_le hs⟩
theorem NearW.below (h : NearW w bb base k lim v H) (hb : Below w.heap.size w w') : NearW w' bb base k lim v H :=
 h.keep (fun b hb'=>hb.block b (by rcases hb' with rfl | hb';exact h.lt;exact (h.own.lt b hb').2)) hb.size
theorem NearW.drewN (h : NearW w bb base k lim v H) (q : Nat) : NearW (w.drewN q) bb base k lim v H:=h.keep (fun _ _=>rfl) (Nat.le_refl _)
theorem NearW.d0 (h : NearW w bb base k lim v H) : w.cell? ⟨bb,0,none⟩ = some (.int .i64 (k : Int)):=h.row.cell rfl
theorem NearW.d1 (h : NearW w bb base k lim v H) : w.cell? ⟨bb,1,none⟩ = some (.int .i64 lim):=h.row.cell rfl
theorem NearW.d2 (h : NearW w bb base k lim v H) : w.cell? ⟨bb,2,none⟩ = some v:=h.row.cell rfl
theorem vreach_any (h : NearW w bb base k lim v H) (hk1 : 1 <= k) (hk : k <= 64) (hH : H.length <= k) : Calls Tryz.prog 108 #[.pointer (some ⟨bb,0,none⟩)] w (Says (.int .i64 (reachOf k lim H)) w):=by
 obtain ⟨A,c,rfl,hnc,hc⟩:=own_shape h.own
 have c0:=h.d0
 have c1:=h.d1
 have c2:=h.d2
 have hl:=h.lt
 by_cases hlt : H.length < k
 ·have hr : reachOf k lim H = lim:=by unfold reachOf;rw [if_pos hlt]
  have hltz : (H.length : Int) < (k : Int):=by omega
  rw [hr]
  clear h hr hH
  generalize H.length = n at *
  go_enter Tryz.func108,Tryz.ntmps108
  go_wp2_with fail
  go_quiet (fail)
  go_wp2_with fail
  go_ret
  exact ⟨rfl,_,rfl⟩
 ·have hr : reachOf k lim H = (H.getD (k - 1) (0,0)).2:=by unfold reachOf;rw [if_neg hlt]
  have hR:=Reads.of_own h.own
  obtain ⟨ad,rfl,hb,hkl,x0,x1⟩:=hR.hit_at (k:=k - 1) (by omega)
  have hltz : ¬ (H.length : Int) < (k : Int):=by omega
  have hkk : (k : Int) - 1 = ((k - 1 : Nat) : Int):=by omega
  rw [hr]
  generalize (H.getD (k - 1) (0,0)) = X at *
  have hkl' : k - 1 < H.length:=hkl
  clear h hr hH hR hlt
  generalize H.length = n at *
  obtain ⟨j,rfl⟩ : ∃ j,k = j + 1:=⟨k - 1,by omega⟩
  simp only [Nat.add_sub_cancel] at *
  have hjz : (j : Int) < (n : Int):=by omega
  have e1 : ((j + 1 : Nat) : Int) - 1 = (j : Int):=by omega
  clear hkk
  go_enter Tryz.func108,Tryz.ntmps108
  go_wp2_with fail
  go_quiet (fail)
  go_wp2_with fail
  go_quiet (fail)
  go_wp2_with fail
  go_ret
  first | exact ⟨rfl,_,rfl⟩ | exact ⟨rfl,_,World.drewN_drewN ..⟩
end
theorem clip_any (A : Option Addr) (n c : Nat) (w : World) (hnc : n <= c) (hc : c <= maxLen) : Calls Tryz.prog 110 #[.slice A n c] w (Says (.slice A n n) w):=by
 unfold maxLen at hc
 have h0 : (0 : Int) <= (n : Int):=by omega
 have h1 : (n : Int) <= (c : Int):=by omega
 go_enter Tryz.func110,Tryz.ntmps110
 go_wp2_with fail
 go_ret
 exact ⟨rfl,0,rfl⟩
end
end Go.Proofs.YtegjjhjgfkcbhaaGreatDoor
