/- SDoes SDoes1 SSamX SLong SOpO. Conditions: as each part says. -/
import Derived.Test.YtegjjhjgfkcbhaaGreatDoorQ50
import Derived.Test.YtegjjhjgfkcbhaaGreatDoorQ49
set_option linter.unusedVariables false
set_option linter.unusedSimpArgs false
set_option maxRecDepth 100000
set_option maxHeartbeats 16000000
namespace Go.Proofs.YtegjjhjgfkcbhaaGreatDoor
section
open Go Go.RowKit
abbrev actC (kd cl sq ep knd x K : Int) (A : Option Addr) (n c : Nat) : List Value:=[.int .i64 kd,.int .i64 cl,.int .i64 sq,.int .i64 0,.int .i64 ep,.int .i64 0,.int .i64 0,.int .i64 knd,.int .i64 x,.slice A n c,.int .i64 K]
abbrev repC (er : Int) (was : Bool) : List Value:=[.int .i64 er,.bool was,.slice none 0 0]
theorem rep_one (er : Int) (was : Bool) : ∀ v ∈ repC er was,v.oneCell' = true:=by
 intro v hv
 simp only [List.mem_cons,List.not_mem_nil,or_false] at hv
 rcases hv with rfl | rfl | rfl <;> rfl
theorem rep_size : (Tryz.prog.info? 52).map (·.size) = some 3:=by kernel_rfl
theorem newp_of {w0 W w' : World} {L : List (Nat × TypeId × List Value)} {P : Nat -> Prop} {A : Option Addr} {c : Nat} {l : List Pt} (h : Hp w0 W L P A c l) : (∀ b,P b -> NewP P W w' b) /\ ∀ b,NewP P W w' b -> P b \/ w0.heap.size <= b :=
 ⟨fun b hb=>.inl hb,fun b hb=>hb.imp id (fun h2=>Nat.le_trans h.bel.size h2.1)⟩
theorem rep_row (W : World) : Row (W.alloc (.cells #[.int .i64 0,.bool false,.slice none 0 0] 52)).drew W.heap.size 52 [.int .i64 0,.bool false,.slice none 0 0]:=Row.new W 52 [.int .i64 0,.bool false,.slice none 0 0]
theorem wr1_st {k : KS} {cl sq kd x : Int} {vec : List Int} (h : k.st = 2) : (wr1 k cl sq kd x vec).k.st = 2:=by
 unfold wr1
 split
 ·exact h
 ·split
  ·exact h
  ·split
   ·split
    ·exact h
    ·exact h
   ·exact h
def D8 (w0 wc : World) (x N y1 y2 y3 : Nat) (act : List Value) (v0 v1 : Value) (qs : List Value) (r : W1) (P : Nat -> Prop) : Prop:=∃ L P' A' c' l',Hp w0 wc L P' A' c' l' /\ l'.map bareP = r.k.T /\ (x,48,v0 :: v1 :: qs) ∈ L /\ (y1,52,repC r.er r.was) ∈ L /\ (y2,46,qV r.k.dm 2 r.k.ep r.k.mv r.k.vr (.slice A' l'.length c') r.k.q) ∈ L /\ (y3,52,repC r.er r.was) ∈ L /\ (∀ b,P b -> P' b) /\ ∀ b,P' b -> P b \/ w0.heap.size <= b
theorem row_ne {w : World} {x y : Nat} {T T' : TypeId} {xs ys : List Value} (a : Row w x T xs) (b : Row w y T' ys) (h : T ≠ T') : y ≠ x:=fun e=>by
 subst e
 unfold Row at a b
 rw [a] at b
 injection b with b
 injection b with _ b
 exact h b
def DoesP (B : Nat) (Z : Nat -> Prop) (x s d tn : Nat) (R : List RK) (k : KS) (w : World) (e : Ending) (w' : World) : Prop:=e = .returned (.bool true) /\ ∃ Z' P' A' c' l',SX w' B Z' x s d tn R k P' A' c' l' /\ Turn (fun b=>Z b \/ b = x) w (fun b=>Z' b \/ b = x) w'
theorem does2_any {w : World} {B : Nat} {Z : Nat -> Prop} {x s d tn : Nat} {R : List RK} {k : KS} {P : Nat -> Prop} {A0 : Option Addr} {c0 : Nat} {l : List Pt} (h : SX w B Z x s d tn R k P A0 c0 l) (cl sq knd xx K : Int) (hm : Be.mayB cl sq = true) (hnp : NoPts R) (hr : R.length <= 100) (hfew : k.T.length < 512) (hv1 : k.vr < 1000000000) (h3 : Be.S64 xx) (hwf : (Lit.int .i64 xx).wf = true) {A : Option Addr} {n c : Nat} {vec : List Int}
  (hrd : Reads w B 1 A n (ints vec)) (hn : n <= maxLen) (hBw : B <= w.heap.size) :
  Calls Tryz.prog 10 #[.pointer (some ⟨x,0,none⟩),.agg #[.int .i64 2,.int .i64 cl,.int .i64 sq,.int .i64 0,.int .i64 0,.int .i64 0,.int .i64 0,.int .i64 knd,.int .i64 xx,.slice A n c,.int .i64 K]] w (DoesP B Z x s d tn (R ++ (wr1 k cl sq knd xx vec).R) (wr1 k cl sq knd xx vec).k w):=by
 obtain ⟨N,hN⟩ : ∃ N,N = w.heap.size:=⟨_,rfl⟩
 obtain ⟨W,hW⟩ : ∃ W,W = w.alloc (.cells (actC 2 cl sq 0 knd xx K A n c).toArray 31):=⟨_,rfl⟩
 have hbW : Below w.heap.size w W:=by rw [hW];exact (Below.refl _ w).alloc (Nat.le_refl _) _
 have hNW : Row W N 31 (actC 2 cl sq 0 knd xx K A n c):=by rw [hW,hN];exact Row.new w _ _
 have hZw : ∀ b,Z b -> b < w.heap.size:=h.side.sh.lt
 have hxw:=h.side.row.lt
 have hNZ : ¬ Z N:=fun hz=>by have:=hZw _ hz;omega
 have hxZ:=h.side.nx
 have hg:=h.side.sh.good
 have hxrow : Row W x 48 (.pointer (some ⟨d,0,none⟩) :: .pointer (some ⟨s,0,none⟩) :: qV k.dm 2 k.ep k.mv k.vr (.slice A0 l.length c0) k.q):=h.side.row.keep (hbW.block _ hxw)
 have hpt : PtIn w P (xx,(A,n,c),vec):=⟨by have:=hrd.1;rw [ints_len] at this;show n = vec.length;omega,fun h0=>by
  have hl : n = vec.length:=by have:=hrd.1;rw [ints_len] at this;omega
  obtain ⟨ad,e,hb,hc⟩:=hrd.2 (by simp only at h0;omega)
  exact ⟨ad,e,h.low _ hb,hc⟩,by have:=hrd.1;rw [ints_len] at this;show vec.length <= maxLen;omega,hwf⟩
 have HWX:=Lib.hid (fun (w5 : World) (hb : Below W.heap.size W w5)=>wx_any (h.side.sh.below (hbW.trans (hb.mono hbW.size))) h.st cl sq knd xx K hm hnp hr hfew hv1 h3 (c:=c) ((hrd.below ((hbW.trans (hb.mono hbW.size)).mono hBw)).more (Nat.le_trans hBw (hbW.trans (hb.mono hbW.size)).size)) hn (fun h0 ad e hz=>by obtain ⟨ad',e',hb',_⟩:=hrd.2 h0;have:=h.side.sh.far _ hz;rw [e] at e';cases e';omega))
 have hact : ∀ w' : World,w'.heap[N]? = W.heap[N]? -> w'.heap[x]? = W.heap[x]? -> (w'.cell? ⟨x,1,none⟩ = some (.pointer (some ⟨s,0,none⟩)) /\ w'.cell? ⟨N,1,none⟩ = some (.int .i64 cl) /\ w'.cell? ⟨N,2,none⟩ = some (.int .i64 sq) /\ w'.cell? ⟨N,7,none⟩ = some (.int .i64 knd) /\ w'.cell? ⟨N,8,none⟩ = some (.int .i64 xx) /\ w'.cell? ⟨N,9,none⟩ = some (.slice A n c) /\ w'.cell? ⟨N,10,none⟩ = some (.int .i64 K)):=fun w' e1 e2 =>
  ⟨(hxrow.keep e2).cell rfl,(hNW.keep e1).cell rfl,(hNW.keep e1).cell rfl,(hNW.keep e1).cell rfl,(hNW.keep e1).cell rfl,(hNW.keep e1).cell rfl,(hNW.keep e1).cell rfl⟩
 have HNl:=hNW.lt
 have HSP:=Lib.hid (fun (w5 w6 : World) (hb : Below W.heap.size W w5) (hp : PostF B Z s d tn (R ++ (wr1 k cl sq knd xx vec).R) (wr1 k cl sq knd xx vec).k w5 w6)=>by
  obtain ⟨Z',_,T⟩:=hp
  exact hact w6 ((T.block N (Nat.lt_of_lt_of_le HNl hb.size) hNZ).trans (hb.block N HNl)) ((T.block x (Nat.lt_of_lt_of_le hxrow.lt hb.size) hxZ).trans (hb.block x hxrow.lt)))
 have HSA:=Lib.hid (fun (y : Nat) (wc : World) (ha : AwB W B Z s d tn (R ++ (wr1 k cl sq knd xx vec).R) (wr1 k cl sq knd xx vec).k (wr1 k cl sq knd xx vec).er (wr1 k cl sq knd xx vec).was y wc)=>by
  obtain ⟨Z',_,T,_⟩:=ha.ex
  exact hact wc (T.block N HNl hNZ) (T.block x hxrow.lt hxZ))
 obtain ⟨q1,q2,q3,q4,q5,q6,q7⟩:=hact W rfl rfl
 have q0 : W.cell? ⟨N,0,none⟩ = some (.int .i64 2):=hNW.cell rfl
 have hxl:=hxrow.lt
 have HZW:=Lib.hid (fun b (hb : Z b)=>show b < W.heap.size from Nat.lt_of_lt_of_le (hZw b hb) hbW.size)
 have HBW:=Lib.hid (show B <= W.heap.size from Nat.le_trans hBw hbW.size)
 have HQK:=Lib.hid (show (wr1 k cl sq knd xx vec).k.q.length = 8 from by
  unfold wr1
  split
  ·exact hg.tab.len
  ·split
   ·exact hg.tab.len
   ·split
    ·split
     ·exact (Be.putM_ok hg.tab cl sq 0 _).len
     ·exact hg.tab.len
    ·exact (Be.putM_ok hg.tab cl sq 0 _).len)
 have HH:=Lib.hid h
 have HG:=Lib.hid hg
 have HPT:=Lib.hid hpt
 have HBw:=Lib.hid hbW
 have HROWS:=Lib.hid (And.intro hNW (And.intro hxrow (And.intro hNZ hxZ)))
 have HFEW:=Lib.hid (And.intro hm (And.intro hfew hv1))
 have HNN:=Lib.hid hN
 have HW:=Lib.hid hW
 have HW1:=Lib.hid (HWX.out W.drew ((Below.refl _ W).drew))
 have HW2:=Lib.hid (HWX.out (W.alloc (.cells #[.int .i64 0,.bool false,.slice none 0 0] 52)).drew (((Below.refl _ W).alloc (Nat.le_refl _) _).drew))
 have hNe : w.heap.size = N:=hN.symm
 clear hNW hxrow hNZ hxZ hg hpt hact h hbW hZw hxw hrd hn hBw hm hnp hr hfew hv1 h3 hwf hW hN HWX
 go_enter Tryz.func10,Tryz.ntmps10
 go_wp2_with fail
 rw [<- HW.out]
 go_cut [7,8] from 57 to 70 (fun s7 s8 wc=>∃ y1 : Nat,s7 = .pointer (some ⟨y1,0,none⟩) /\ s8 = .int .i64 (wr1 k cl sq knd xx vec).e0 /\ Hid (AwB W B Z s d tn (R ++ (wr1 k cl sq knd xx vec).R) (wr1 k cl sq knd xx vec).k (wr1 k cl sq knd xx vec).er (wr1 k cl sq knd xx vec).was y1 wc))
 case first =>
  go_region_held3 (fun w'=>w'.cell? ⟨x,1,none⟩ = some (.pointer (some ⟨s,0,none⟩)) /\ w'.cell? ⟨N,1,none⟩ = some (.int .i64 cl) /\ w'.cell? ⟨N,2,none⟩ = some (.int .i64 sq) /\ w'.cell? ⟨N,7,none⟩ = some (.int .i64 knd) /\ w'.cell? ⟨N,8,none⟩ = some (.int .i64 xx) /\ w'.cell? ⟨N,9,none⟩ = some (.slice A n c) /\ w'.cell? ⟨N,10,none⟩ = some (.int .i64 K))
   (first | with_reducible exact ⟨q1,q2,q3,q4,q5,q6,q7⟩ | with_reducible exact HS5.out | with_reducible exact HS6.out | go_keep)
   (first
    | (go_at_call 16;with_reducible refine HW1.out.mono ?_;intro e w6 hpost;unfold WrP at hpost;obtain ⟨rfl,hp⟩:=hpost;have HP:=Lib.hid (awb_last (er:=(wr1 k cl sq knd xx vec).er) (was:=(wr1 k cl sq knd xx vec).was) (Turn.below Z ((Below.refl _ W).drew)) hp);have HS5:=Lib.hid (HSP.out _ _ ((Below.refl _ W).drew) hp);have HS6:=Lib.hid (HSA.out _ _ HP.out);clear hp)
    | (go_at_call 16;with_reducible refine HW2.out.mono ?_;intro e w6 hpost;unfold WrP at hpost;obtain ⟨rfl,hp⟩:=hpost;have HP:=Lib.hid (awb_set (y:=W.heap.size) (er:=(wr1 k cl sq knd xx vec).er) (was:=(wr1 k cl sq knd xx vec).was) (Turn.below Z (((Below.refl _ W).alloc (Nat.le_refl _) _).drew)) (by simp) (Nat.le_refl _) (fun hz=>by have:=HZW.out _ hz;omega) HBW.out (rep_row W) hp);have HS5:=Lib.hid (HSP.out _ _ (((Below.refl _ W).alloc (Nat.le_refl _) _).drew) hp);have HS6:=Lib.hid (HSA.out _ _ HP.out.2);have hob:=HP.out.1;have o0:=hob.cell (j:=0) rfl;have o1:=hob.cell (j:=1) rfl;have o2:=hob.cell (j:=2) rfl;have of0:=hob.frozen 0;have of1:=hob.frozen 1;have of2:=hob.frozen 2;have ol:=hob.lt;clear hp hob))
  all_goals
   go_wp2_with fail
   go_meet
  ·exact ⟨_,rfl,rfl,Lib.hid HP.out⟩
  ·exact ⟨_,rfl,rfl,Lib.hid HP.out.2⟩
 case rest =>
 obtain ⟨w8,hw8⟩ : ∃ w8,w8 = wc:=⟨_,rfl⟩
 subst hw8
 obtain ⟨y1,rfl,rfl,HY8⟩:=hcut
 clear HW1 HW2 HSP HSA q0 q1 q2 q3 q4 q5 q6 q7
 obtain ⟨Z',hsh8,T8,hy1Z⟩:=HY8.out.ex
 have hwW:=HBw.out.size
 have hs8 : w.heap.size <= w8.heap.size:=Nat.le_trans hwW T8.size
 have hPZ : ∀ b,P b -> w8.heap[b]? = w.heap[b]?:=fun b hb=>(T8.block b (Nat.lt_of_lt_of_le (HH.out.doc.lt b hb) hwW) (HH.out.off b hb).1).trans (HBw.out.block b (HH.out.doc.lt b hb))
 have HP0 : Hid (Hp w8 w8.drew [(y1,52,repC (wr1 k cl sq knd xx vec).er (wr1 k cl sq knd xx vec).was),(N,31,actC 2 cl sq 0 knd xx K A n c),(x,48,.pointer (some ⟨d,0,none⟩) :: .pointer (some ⟨s,0,none⟩) :: qV k.dm 2 k.ep k.mv k.vr (.slice A0 l.length c0) k.q)] P A0 c0 l):=by
  have hN1 : N < W.heap.size:=HNl
  have hx1:=HH.out.side.row.lt
  have hy1:=HY8.out.new
  have hNN:=HNN.out
  refine Lib.hid ⟨(Below.refl _ w8).drew,fun r hr=>?_,?_,fun r hr hP=>?_,HH.out.doc.keep (w':=w8.drew) hPZ hs8⟩
  ·simp only [List.mem_cons,List.not_mem_nil,or_false] at hr
   rcases hr with rfl | rfl | rfl
   ·exact HY8.out.row
   ·exact HROWS.out.1.keep (T8.block N HNl HROWS.out.2.2.1)
   ·exact HROWS.out.2.1.keep (T8.block x HROWS.out.2.1.lt HROWS.out.2.2.2)
  ·simp only [List.map_cons,List.map_nil,List.nodup_cons,List.mem_cons,List.not_mem_nil,or_false,not_or,List.nodup_nil,and_true]
   exact ⟨⟨by omega,by omega⟩,by omega,not_false⟩
  ·have hPl:=HH.out.doc.lt _ hP
   simp only [List.mem_cons,List.not_mem_nil,or_false] at hr
   rcases hr with rfl | rfl | rfl
   ·simp only at hPl
    omega
   ·simp only at hPl
    omega
   ·exact (HH.out.off _ hP).2 rfl
 have HQ:=Lib.hid (fun (Wc : World) (L : List (Nat × TypeId × List Value)) (hp : Hp w8 Wc L P A0 c0 l)=>qx_any hp.doc HH.out.eq HG.out cl sq knd xx K HFEW.out.1 HFEW.out.2.1 HFEW.out.2.2 (c:=c) (HPT.out.keep (fun b hb=>(hp.bel.block b (Nat.lt_of_lt_of_le (HH.out.doc.lt b hb) hs8)).trans (hPZ b hb))))
 have HS:=Lib.hid (fun (Wc : World) (L : List (Nat × TypeId × List Value)) (P1 : Nat -> Prop) (A1 : Option Addr) (c1 : Nat) (l1 : List Pt) (hx : (x,48,(.pointer (some ⟨d,0,none⟩) :: .pointer (some ⟨s,0,none⟩) :: qV k.dm 2 k.ep k.mv k.vr (.slice A0 l.length c0) k.q : List Value)) ∈ L) (hN : (N,31,actC 2 cl sq 0 knd xx K A n c) ∈ L) (hp : Hp w8 Wc L P1 A1 c1 l1) =>
  show Row Wc x 48 (.pointer (some ⟨d,0,none⟩) :: .pointer (some ⟨s,0,none⟩) :: qV k.dm 2 k.ep k.mv k.vr (.slice A0 l.length c0) k.q) /\ Wc.cell? ⟨N,1,none⟩ = some (.int .i64 cl) /\ Wc.cell? ⟨N,2,none⟩ = some (.int .i64 sq) /\ Wc.cell? ⟨N,7,none⟩ = some (.int .i64 knd) /\ Wc.cell? ⟨N,8,none⟩ = some (.int .i64 xx) /\ Wc.cell? ⟨N,9,none⟩ = some (.slice A n c) /\ Wc.cell? ⟨N,10,none⟩ = some (.int .i64 K) from
  ⟨hp.rows _ hx,(hp.rows _ hN).cell rfl,(hp.rows _ hN).cell rfl,(hp.rows _ hN).cell rfl,(hp.rows _ hN).cell rfl,(hp.rows _ hN).cell rfl,(hp.rows _ hN).cell rfl⟩)
 have HQL:=Lib.hid (show (qV k.dm 2 k.ep k.mv k.vr (.slice A0 l.length c0) k.q).length = 31 from qV_len HG.out.tab.len)
 have HSH:=Lib.hid (And.intro hsh8 (And.intro T8 hs8))
 clear hsh8 T8 hy1Z hPZ hs8 hwW
 go_upto_region 8 with fail
 go_cut [9,10,11] from 71 to 85 (fun s9 s10 s11 wc=>∃ y2 y3 : Nat,s9 = .pointer (some ⟨y2,0,none⟩) /\ s10 = .pointer (some ⟨y3,0,none⟩) /\ s11 = .int .i64 (wr1 k cl sq knd xx vec).e0 /\ Hid (D8 w8 wc x N y1 y2 y3 (actC 2 cl sq 0 knd xx K A n c) (.pointer (some ⟨d,0,none⟩)) (.pointer (some ⟨s,0,none⟩)) (qV k.dm 2 k.ep k.mv k.vr (.slice A0 l.length c0) k.q) (wr1 k cl sq knd xx vec) P))
 case first =>
  refine wp_region_held_drew (S:=fun w'=>Row w' x 48 (.pointer (some ⟨d,0,none⟩) :: .pointer (some ⟨s,0,none⟩) :: qV k.dm 2 k.ep k.mv k.vr (.slice A0 l.length c0) k.q) /\ w'.cell? ⟨N,1,none⟩ = some (.int .i64 cl) /\ w'.cell? ⟨N,2,none⟩ = some (.int .i64 sq) /\ w'.cell? ⟨N,7,none⟩ = some (.int .i64 knd) /\ w'.cell? ⟨N,8,none⟩ = some (.int .i64 xx) /\ w'.cell? ⟨N,9,none⟩ = some (.slice A n c) /\ w'.cell? ⟨N,10,none⟩ = some (.int .i64 K)) (by kernel_rfl) ?_ (fun hHeld=>?_)
  ·exact HS.out _ _ _ _ _ _ mm2 mm1 HP0.out
  refine tk 0 (oi:=⟨_,_,_,_,_,_⟩) rfl (fun w' hSw=>by (try dsimp only at hSw);go_simp <;> with_reducible rfl) ?_
  refine tk 1 (oi:=⟨_,_,_,_,_,_⟩) rfl (fun w' hSw=>by (try dsimp only at hSw);go_simp <;> with_reducible rfl) ?_
  refine tk 2 (oi:=⟨_,_,_,_,_,_⟩) rfl (fun w' hSw=>by (try dsimp only at hSw);go_simp <;> with_reducible rfl) ?_
  refine tk 3 (oi:=⟨_,_,_,_,_,_⟩) rfl (fun w' hSw=>by (refine yields_side hSw.1 HQL.out (.tmp 74) ?_ ?_) <;> rfl) ?_
  refine tk 4 (oi:=⟨_,_,_,_,_,_⟩) rfl (fun w' hSw=>by (try dsimp only at hSw);go_simp <;> with_reducible rfl) ?_
  refine tk 5 (oi:=⟨_,_,_,_,_,_⟩) rfl (fun w' hSw=>by (try dsimp only at hSw);go_simp <;> with_reducible rfl) ?_
  refine tk 6 (oi:=⟨_,_,_,_,_,_⟩) rfl (fun w' hSw=>by (try dsimp only at hSw);go_simp <;> with_reducible rfl) ?_
  refine tk 7 (oi:=⟨_,_,_,_,_,_⟩) rfl (fun w' hSw=>by (try dsimp only at hSw);go_simp <;> with_reducible rfl) ?_
  refine tk 8 (oi:=⟨_,_,_,_,_,_⟩) rfl (fun w' hSw=>by (try dsimp only at hSw);go_simp <;> with_reducible rfl) ?_
  refine tk 9 (oi:=⟨_,_,_,_,_,_⟩) rfl (fun w' hSw=>by (try dsimp only at hSw);go_simp <;> with_reducible rfl) ?_
  try simp only [Act.put,List.setIfInBounds_toArray,List.set_cons_zero,List.set_cons_succ]
  refine wpAnyH_ready (rs:=[10,15,16]) (by kernel_rfl) (by simp) ?_
  refine AllReadyH.cons (o:=⟨_,_,_,_,_,_⟩) rfl (fun K hK=>?_) ?_
  ·go_simp
   go_at_call 35
   refine (HQ.out _ _ HP0.out).mono ?_
   rintro e W1 ⟨A1,c1,l1,rfl,hD1,hl1,hb1⟩
   have HP1:=Lib.hid (HP0.out.call hb1 hD1)
   have HL1:=Lib.hid hl1
   have HN1:=Lib.hid (newp_of HP0.out (w':=W1))
   have hz1:=HP1.out.bel.size
   clear hD1 hl1 hb1
   refine hK.out _ _ (HS.out _ _ _ _ _ _ mm2 mm1 HP1.out) (fun hHeld=>?_)
   clear hK K
   try simp only [Act.put,List.setIfInBounds_toArray,List.set_cons_zero,List.set_cons_succ]
   refine tk 11 (oi:=⟨_,_,_,_,_,_⟩) rfl (fun w' hSw=>by (try dsimp only at hSw);go_simp <;> with_reducible rfl) ?_
   refine tk 12 (oi:=⟨_,_,_,_,_,_⟩) rfl (fun w' hSw=>by (try dsimp only at hSw);go_simp <;> with_reducible rfl) ?_
   refine tk 13 (oi:=⟨_,_,_,_,_,_⟩) rfl (fun w' hSw=>by (try dsimp only at hSw);go_simp <;> with_reducible rfl) ?_
   refine tk 14 (oi:=⟨_,_,_,_,_,_⟩) rfl (fun w' hSw=>by (try dsimp only at hSw);go_simp <;> with_reducible rfl) ?_
   try simp only [Act.put,List.setIfInBounds_toArray,List.set_cons_zero,List.set_cons_succ]
   refine wpAnyH_ready (rs:=[15,16]) (by kernel_rfl) (by simp) ?_
   refine AllReadyH.cons (o:=⟨_,_,_,_,_,_⟩) rfl (fun K hK=>?_) ?_
   ·go_simp
    have HP2:=Lib.hid (HP1.out.alloc (W1.heap.size) (by first | rfl | simp) 46 (qNew 0))
    refine hK.out _ _ (HS.out _ _ _ _ _ _ mm3 mm2 HP2.out) (fun hHeld=>?_)
    clear hK K
    try simp only [Act.put,List.setIfInBounds_toArray,List.set_cons_zero,List.set_cons_succ]
    refine rd1 16 (o:=⟨_,_,_,_,_,_⟩) rfl (fun K hK=>?_)
    go_simp
    have HP3:=Lib.hid (HP2.out.alloc (W1.heap.size + 1) (by first | rfl | simp) 52 (repC 0 false))
    refine hK.out _ _ (HS.out _ _ _ _ _ _ mm4 mm3 HP3.out) (fun hHeld=>?_)
    clear hK K
    try simp only [Act.put,List.setIfInBounds_toArray,List.set_cons_zero,List.set_cons_succ]
    refine rd1 17 (o:=⟨_,_,_,_,_,_⟩) rfl (fun K hK=>?_)
    refine step_st_row (xs:=qNew 0) (ys:=qV (wr1 k cl sq knd xx vec).k.dm 2 (wr1 k cl sq knd xx vec).k.ep (wr1 k cl sq knd xx vec).k.mv (wr1 k cl sq knd xx vec).k.vr _ (wr1 k cl sq knd xx vec).k.q) (HP3.out.rows _ mm1) (qV_len HQK.out) (by rw [qV_len HQK.out];exact q10_size) (qV_one rfl) rfl _ _ rfl rfl rfl ?_
    intro W4 hr4 hs4 hg4
    have HP4:=Lib.hid (Hp.store (L1:=[_]) HP3.out (by omega) hr4 hg4)
    have hz4:=HP4.out.bel.size
    simp only [List.nil_append,List.cons_append] at HP4
    clear hr4 hs4 hg4
    refine hK.out _ _ (HS.out _ _ _ _ _ _ mm4 mm3 HP4.out) (fun hHeld=>?_)
    clear hK K
    try simp only [Act.put,List.setIfInBounds_toArray,List.set_cons_zero,List.set_cons_succ]
    refine rd1 18 (o:=⟨_,_,_,_,_,_⟩) rfl (fun K hK=>?_)
    refine step_st_row (xs:=repC 0 false) (ys:=repC (wr1 k cl sq knd xx vec).er (wr1 k cl sq knd xx vec).was) (HP4.out.rows _ mm0) rfl rep_size (rep_one _ _) rfl _ _ rfl rfl rfl ?_
    intro W5 hr5 hs5 hg5
    have HP5:=Lib.hid (Hp.store (L1:=[]) HP4.out (by omega) hr5 hg5)
    have hz5:=HP5.out.bel.size
    simp only [List.nil_append,List.cons_append] at HP5
    clear hr5 hs5 hg5
    refine hK.out _ _ (HS.out _ _ _ _ _ _ mm4 mm3 HP5.out) (fun hHeld=>?_)
    clear hK K
    try simp only [Act.put,List.setIfInBounds_toArray,List.set_cons_zero,List.set_cons_succ]
    refine rd1 19 (o:=⟨_,_,_,_,_,_⟩) rfl (fun K hK=>?_)
    go_simp
    refine hK.out _ _ hHeld (fun hHeld=>?_)
    clear hK K
    try simp only [Act.put,List.setIfInBounds_toArray,List.set_cons_zero,List.set_cons_succ]
    refine wpAnyH_done (by kernel_rfl) ?_ _
    go_wp2_with fail
    go_meet
    exact ⟨_,_,rfl,rfl,rfl,Lib.hid ⟨_,_,_,_,_,HP5.out,HL1.out,mm4,mm2,mm1,mm0,HN1.out⟩⟩
   refine AllReadyH.cons (o:=⟨_,_,_,_,_,_⟩) rfl (fun K hK=>?_) AllReadyH.nil
   go_simp
   have HP6:=Lib.hid (HP1.out.alloc (W1.heap.size) (by first | rfl | simp) 52 (repC 0 false))
   refine hK.out _ _ (HS.out _ _ _ _ _ _ mm3 mm2 HP6.out) (fun hHeld=>?_)
   clear hK K
   try simp only [Act.put,List.setIfInBounds_toArray,List.set_cons_zero,List.set_cons_succ]
   refine rd1 15 (o:=⟨_,_,_,_,_,_⟩) rfl (fun K hK=>?_)
   go_simp
   have HP7:=Lib.hid (HP6.out.alloc (W1.heap.size + 1) (by first | rfl | simp) 46 (qNew 0))
   refine hK.out _ _ (HS.out _ _ _ _ _ _ mm4 mm3 HP7.out) (fun hHeld=>?_)
   clear hK K
   try simp only [Act.put,List.setIfInBounds_toArray,List.set_cons_zero,List.set_cons_succ]
   refine rd1 17 (o:=⟨_,_,_,_,_,_⟩) rfl (fun K hK=>?_)
   refine step_st_row (xs:=qNew 0) (ys:=qV (wr1 k cl sq knd xx vec).k.dm 2 (wr1 k cl sq knd xx vec).k.ep (wr1 k cl sq knd xx vec).k.mv (wr1 k cl sq knd xx vec).k.vr _ (wr1 k cl sq knd xx vec).k.q) (HP7.out.rows _ mm0) (qV_len HQK.out) (by rw [qV_len HQK.out];exact q10_size) (qV_one rfl) rfl _ _ rfl rfl rfl ?_
   intro W8 hr8 hs8 hg8
   have HP8:=Lib.hid (Hp.store (L1:=[]) HP7.out (by omega) hr8 hg8)
   have hz8:=HP8.out.bel.size
   simp only [List.nil_append,List.cons_append] at HP8
   clear hr8 hs8 hg8
   refine hK.out _ _ (HS.out _ _ _ _ _ _ mm4 mm3 HP8.out) (fun hHeld=>?_)
   clear hK K
   try simp only [Act.put,List.setIfInBounds_toArray,List.set_cons_zero,List.set_cons_succ]
   refine rd1 18 (o:=⟨_,_,_,_,_,_⟩) rfl (fun K hK=>?_)
   refine step_st_row (xs:=repC 0 false) (ys:=repC (wr1 k cl sq knd xx vec).er (wr1 k cl sq knd xx vec).was) (HP8.out.rows _ mm1) rfl rep_size (rep_one _ _) rfl _ _ rfl rfl rfl ?_
   intro W9 hr9 hs9 hg9
   have HP9:=Lib.hid (Hp.store (L1:=[_]) HP8.out (by omega) hr9 hg9)
   have hz9:=HP9.out.bel.size
   simp only [List.nil_append,List.cons_append] at HP9
   clear hr9 hs9 hg9
   refine hK.out _ _ (HS.out _ _ _ _ _ _ mm4 mm3 HP9.out) (fun hHeld=>?_)
   clear hK K
   try simp only [Act.put,List.setIfInBounds_toArray,List.set_cons_zero,List.set_cons_succ]
   refine rd1 19 (o:=⟨_,_,_,_,_,_⟩) rfl (fun K hK=>?_)
   go_simp
   refine hK.out _ _ hHeld (fun hHeld=>?_)
   clear hK K
   try simp only [Act.put,List.setIfInBounds_toArray,List.set_cons_zero,List.set_cons_succ]
   refine wpAnyH_done (by kernel_rfl) ?_ _
   go_wp2_with fail
   go_meet
   exact ⟨_,_,rfl,rfl,rfl,Lib.hid ⟨_,_,_,_,_,HP9.out,HL1.out,mm4,mm2,mm0,mm1,HN1.out⟩⟩
  refine AllReadyH.cons (o:=⟨_,_,_,_,_,_⟩) rfl (fun K hK=>?_) ?_
  ·go_simp
   have HP10:=Lib.hid (HP0.out.alloc (w8.heap.size) (by first | rfl | simp) 46 (qNew 0))
   refine hK.out _ _ (HS.out _ _ _ _ _ _ mm3 mm2 HP10.out) (fun hHeld=>?_)
   clear hK K
   try simp only [Act.put,List.setIfInBounds_toArray,List.set_cons_zero,List.set_cons_succ]
   refine wpAnyH_ready (rs:=[10,16]) (by kernel_rfl) (by simp) ?_
   refine AllReadyH.cons (o:=⟨_,_,_,_,_,_⟩) rfl (fun K hK=>?_) ?_
   ·go_simp
    go_at_call 35
    refine (HQ.out _ _ HP10.out).mono ?_
    rintro e W11 ⟨A11,c11,l11,rfl,hD11,hl11,hb11⟩
    have HP11:=Lib.hid (HP10.out.call hb11 hD11)
    have HL11:=Lib.hid hl11
    have HN11:=Lib.hid (newp_of HP10.out (w':=W11))
    have hz11:=HP11.out.bel.size
    clear hD11 hl11 hb11
    refine hK.out _ _ (HS.out _ _ _ _ _ _ mm3 mm2 HP11.out) (fun hHeld=>?_)
    clear hK K
    try simp only [Act.put,List.setIfInBounds_toArray,List.set_cons_zero,List.set_cons_succ]
    refine tk 11 (oi:=⟨_,_,_,_,_,_⟩) rfl (fun w' hSw=>by (try dsimp only at hSw);go_simp <;> with_reducible rfl) ?_
    refine tk 12 (oi:=⟨_,_,_,_,_,_⟩) rfl (fun w' hSw=>by (try dsimp only at hSw);go_simp <;> with_reducible rfl) ?_
    refine tk 13 (oi:=⟨_,_,_,_,_,_⟩) rfl (fun w' hSw=>by (try dsimp only at hSw);go_simp <;> with_reducible rfl) ?_
    refine tk 14 (oi:=⟨_,_,_,_,_,_⟩) rfl (fun w' hSw=>by (try dsimp only at hSw);go_simp <;> with_reducible rfl) ?_
    try simp only [Act.put,List.setIfInBounds_toArray,List.set_cons_zero,List.set_cons_succ]
    refine rd1 16 (o:=⟨_,_,_,_,_,_⟩) rfl (fun K hK=>?_)
    go_simp
    have HP12:=Lib.hid (HP11.out.alloc (W11.heap.size) (by first | rfl | simp) 52 (repC 0 false))
    refine hK.out _ _ (HS.out _ _ _ _ _ _ mm4 mm3 HP12.out) (fun hHeld=>?_)
    clear hK K
    try simp only [Act.put,List.setIfInBounds_toArray,List.set_cons_zero,List.set_cons_succ]
    refine rd1 17 (o:=⟨_,_,_,_,_,_⟩) rfl (fun K hK=>?_)
    refine step_st_row (xs:=qNew 0) (ys:=qV (wr1 k cl sq knd xx vec).k.dm 2 (wr1 k cl sq knd xx vec).k.ep (wr1 k cl sq knd xx vec).k.mv (wr1 k cl sq knd xx vec).k.vr _ (wr1 k cl sq knd xx vec).k.q) (HP12.out.rows _ mm1) (qV_len HQK.out) (by rw [qV_len HQK.out];exact q10_size) (qV_one rfl) rfl _ _ rfl rfl rfl ?_
    intro W13 hr13 hs13 hg13
    have HP13:=Lib.hid (Hp.store (L1:=[_]) HP12.out (by omega) hr13 hg13)
    have hz13:=HP13.out.bel.size
    simp only [List.nil_append,List.cons_append] at HP13
    clear hr13 hs13 hg13
    refine hK.out _ _ (HS.out _ _ _ _ _ _ mm4 mm3 HP13.out) (fun hHeld=>?_)
    clear hK K
    try simp only [Act.put,List.setIfInBounds_toArray,List.set_cons_zero,List.set_cons_succ]
    refine rd1 18 (o:=⟨_,_,_,_,_,_⟩) rfl (fun K hK=>?_)
    refine step_st_row (xs:=repC 0 false) (ys:=repC (wr1 k cl sq knd xx vec).er (wr1 k cl sq knd xx vec).was) (HP13.out.rows _ mm0) rfl rep_size (rep_one _ _) rfl _ _ rfl rfl rfl ?_
    intro W14 hr14 hs14 hg14
    have HP14:=Lib.hid (Hp.store (L1:=[]) HP13.out (by omega) hr14 hg14)
    have hz14:=HP14.out.bel.size
    simp only [List.nil_append,List.cons_append] at HP14
    clear hr14 hs14 hg14
    refine hK.out _ _ (HS.out _ _ _ _ _ _ mm4 mm3 HP14.out) (fun hHeld=>?_)
    clear hK K
    try simp only [Act.put,List.setIfInBounds_toArray,List.set_cons_zero,List.set_cons_succ]
    refine rd1 19 (o:=⟨_,_,_,_,_,_⟩) rfl (fun K hK=>?_)
    go_simp
    refine hK.out _ _ hHeld (fun hHeld=>?_)
    clear hK K
    try simp only [Act.put,List.setIfInBounds_toArray,List.set_cons_zero,List.set_cons_succ]
    refine wpAnyH_done (by kernel_rfl) ?_ _
    go_wp2_with fail
    go_meet
    exact ⟨_,_,rfl,rfl,rfl,Lib.hid ⟨_,_,_,_,_,HP14.out,HL11.out,mm4,mm2,mm1,mm0,HN11.out⟩⟩
   refine AllReadyH.cons (o:=⟨_,_,_,_,_,_⟩) rfl (fun K hK=>?_) AllReadyH.nil
   go_simp
   have HP15:=Lib.hid (HP10.out.alloc (w8.heap.size + 1) (by first | rfl | simp) 52 (repC 0 false))
   refine hK.out _ _ (HS.out _ _ _ _ _ _ mm4 mm3 HP15.out) (fun hHeld=>?_)
   clear hK K
   try simp only [Act.put,List.setIfInBounds_toArray,List.set_cons_zero,List.set_cons_succ]
   refine rd1 10 (o:=⟨_,_,_,_,_,_⟩) rfl (fun K hK=>?_)
   go_simp
   go_at_call 35
   refine (HQ.out _ _ HP15.out).mono ?_
   rintro e W16 ⟨A16,c16,l16,rfl,hD16,hl16,hb16⟩
   have HP16:=Lib.hid (HP15.out.call hb16 hD16)
   have HL16:=Lib.hid hl16
   have HN16:=Lib.hid (newp_of HP15.out (w':=W16))
   have hz16:=HP16.out.bel.size
   clear hD16 hl16 hb16
   refine hK.out _ _ (HS.out _ _ _ _ _ _ mm4 mm3 HP16.out) (fun hHeld=>?_)
   clear hK K
   try simp only [Act.put,List.setIfInBounds_toArray,List.set_cons_zero,List.set_cons_succ]
   refine tk 11 (oi:=⟨_,_,_,_,_,_⟩) rfl (fun w' hSw=>by (try dsimp only at hSw);go_simp <;> with_reducible rfl) ?_
   refine tk 12 (oi:=⟨_,_,_,_,_,_⟩) rfl (fun w' hSw=>by (try dsimp only at hSw);go_simp <;> with_reducible rfl) ?_
   refine tk 13 (oi:=⟨_,_,_,_,_,_⟩) rfl (fun w' hSw=>by (try dsimp only at hSw);go_simp <;> with_reducible rfl) ?_
   refine tk 14 (oi:=⟨_,_,_,_,_,_⟩) rfl (fun w' hSw=>by (try dsimp only at hSw);go_simp <;> with_reducible rfl) ?_
   try simp only [Act.put,List.setIfInBounds_toArray,List.set_cons_zero,List.set_cons_succ]
   refine rd1 17 (o:=⟨_,_,_,_,_,_⟩) rfl (fun K hK=>?_)
   refine step_st_row (xs:=qNew 0) (ys:=qV (wr1 k cl sq knd xx vec).k.dm 2 (wr1 k cl sq knd xx vec).k.ep (wr1 k cl sq knd xx vec).k.mv (wr1 k cl sq knd xx vec).k.vr _ (wr1 k cl sq knd xx vec).k.q) (HP16.out.rows _ mm1) (qV_len HQK.out) (by rw [qV_len HQK.out];exact q10_size) (qV_one rfl) rfl _ _ rfl rfl rfl ?_
   intro W17 hr17 hs17 hg17
   have HP17:=Lib.hid (Hp.store (L1:=[_]) HP16.out (by omega) hr17 hg17)
   have hz17:=HP17.out.bel.size
   simp only [List.nil_append,List.cons_append] at HP17
   clear hr17 hs17 hg17
   refine hK.out _ _ (HS.out _ _ _ _ _ _ mm4 mm3 HP17.out) (fun hHeld=>?_)
   clear hK K
   try simp only [Act.put,List.setIfInBounds_toArray,List.set_cons_zero,List.set_cons_succ]
   refine rd1 18 (o:=⟨_,_,_,_,_,_⟩) rfl (fun K hK=>?_)
   refine step_st_row (xs:=repC 0 false) (ys:=repC (wr1 k cl sq knd xx vec).er (wr1 k cl sq knd xx vec).was) (HP17.out.rows _ mm0) rfl rep_size (rep_one _ _) rfl _ _ rfl rfl rfl ?_
   intro W18 hr18 hs18 hg18
   have HP18:=Lib.hid (Hp.store (L1:=[]) HP17.out (by omega) hr18 hg18)
   have hz18:=HP18.out.bel.size
   simp only [List.nil_append,List.cons_append] at HP18
   clear hr18 hs18 hg18
   refine hK.out _ _ (HS.out _ _ _ _ _ _ mm4 mm3 HP18.out) (fun hHeld=>?_)
   clear hK K
   try simp only [Act.put,List.setIfInBounds_toArray,List.set_cons_zero,List.set_cons_succ]
   refine rd1 19 (o:=⟨_,_,_,_,_,_⟩) rfl (fun K hK=>?_)
   go_simp
   refine hK.out _ _ hHeld (fun hHeld=>?_)
   clear hK K
   try simp only [Act.put,List.setIfInBounds_toArray,List.set_cons_zero,List.set_cons_succ]
   refine wpAnyH_done (by kernel_rfl) ?_ _
   go_wp2_with fail
   go_meet
   exact ⟨_,_,rfl,rfl,rfl,Lib.hid ⟨_,_,_,_,_,HP18.out,HL16.out,mm4,mm2,mm1,mm0,HN16.out⟩⟩
  refine AllReadyH.cons (o:=⟨_,_,_,_,_,_⟩) rfl (fun K hK=>?_) AllReadyH.nil
  go_simp
  have HP19:=Lib.hid (HP0.out.alloc (w8.heap.size) (by first | rfl | simp) 52 (repC 0 false))
  refine hK.out _ _ (HS.out _ _ _ _ _ _ mm3 mm2 HP19.out) (fun hHeld=>?_)
  clear hK K
  try simp only [Act.put,List.setIfInBounds_toArray,List.set_cons_zero,List.set_cons_succ]
  refine wpAnyH_ready (rs:=[10,15]) (by kernel_rfl) (by simp) ?_
  refine AllReadyH.cons (o:=⟨_,_,_,_,_,_⟩) rfl (fun K hK=>?_) ?_
  ·go_simp
   go_at_call 35
   refine (HQ.out _ _ HP19.out).mono ?_
   rintro e W20 ⟨A20,c20,l20,rfl,hD20,hl20,hb20⟩
   have HP20:=Lib.hid (HP19.out.call hb20 hD20)
   have HL20:=Lib.hid hl20
   have HN20:=Lib.hid (newp_of HP19.out (w':=W20))
   have hz20:=HP20.out.bel.size
   clear hD20 hl20 hb20
   refine hK.out _ _ (HS.out _ _ _ _ _ _ mm3 mm2 HP20.out) (fun hHeld=>?_)
   clear hK K
   try simp only [Act.put,List.setIfInBounds_toArray,List.set_cons_zero,List.set_cons_succ]
   refine tk 11 (oi:=⟨_,_,_,_,_,_⟩) rfl (fun w' hSw=>by (try dsimp only at hSw);go_simp <;> with_reducible rfl) ?_
   refine tk 12 (oi:=⟨_,_,_,_,_,_⟩) rfl (fun w' hSw=>by (try dsimp only at hSw);go_simp <;> with_reducible rfl) ?_
   refine tk 13 (oi:=⟨_,_,_,_,_,_⟩) rfl (fun w' hSw=>by (try dsimp only at hSw);go_simp <;> with_reducible rfl) ?_
   refine tk 14 (oi:=⟨_,_,_,_,_,_⟩) rfl (fun w' hSw=>by (try dsimp only at hSw);go_simp <;> with_reducible rfl) ?_
   try simp only [Act.put,List.setIfInBounds_toArray,List.set_cons_zero,List.set_cons_succ]
   refine rd1 15 (o:=⟨_,_,_,_,_,_⟩) rfl (fun K hK=>?_)
   go_simp
   have HP21:=Lib.hid (HP20.out.alloc (W20.heap.size) (by first | rfl | simp) 46 (qNew 0))
   refine hK.out _ _ (HS.out _ _ _ _ _ _ mm4 mm3 HP21.out) (fun hHeld=>?_)
   clear hK K
   try simp only [Act.put,List.setIfInBounds_toArray,List.set_cons_zero,List.set_cons_succ]
   refine rd1 17 (o:=⟨_,_,_,_,_,_⟩) rfl (fun K hK=>?_)
   refine step_st_row (xs:=qNew 0) (ys:=qV (wr1 k cl sq knd xx vec).k.dm 2 (wr1 k cl sq knd xx vec).k.ep (wr1 k cl sq knd xx vec).k.mv (wr1 k cl sq knd xx vec).k.vr _ (wr1 k cl sq knd xx vec).k.q) (HP21.out.rows _ mm0) (qV_len HQK.out) (by rw [qV_len HQK.out];exact q10_size) (qV_one rfl) rfl _ _ rfl rfl rfl ?_
   intro W22 hr22 hs22 hg22
   have HP22:=Lib.hid (Hp.store (L1:=[]) HP21.out (by omega) hr22 hg22)
   have hz22:=HP22.out.bel.size
   simp only [List.nil_append,List.cons_append] at HP22
   clear hr22 hs22 hg22
   refine hK.out _ _ (HS.out _ _ _ _ _ _ mm4 mm3 HP22.out) (fun hHeld=>?_)
   clear hK K
   try simp only [Act.put,List.setIfInBounds_toArray,List.set_cons_zero,List.set_cons_succ]
   refine rd1 18 (o:=⟨_,_,_,_,_,_⟩) rfl (fun K hK=>?_)
   refine step_st_row (xs:=repC 0 false) (ys:=repC (wr1 k cl sq knd xx vec).er (wr1 k cl sq knd xx vec).was) (HP22.out.rows _ mm1) rfl rep_size (rep_one _ _) rfl _ _ rfl rfl rfl ?_
   intro W23 hr23 hs23 hg23
   have HP23:=Lib.hid (Hp.store (L1:=[_]) HP22.out (by omega) hr23 hg23)
   have hz23:=HP23.out.bel.size
   simp only [List.nil_append,List.cons_append] at HP23
   clear hr23 hs23 hg23
   refine hK.out _ _ (HS.out _ _ _ _ _ _ mm4 mm3 HP23.out) (fun hHeld=>?_)
   clear hK K
   try simp only [Act.put,List.setIfInBounds_toArray,List.set_cons_zero,List.set_cons_succ]
   refine rd1 19 (o:=⟨_,_,_,_,_,_⟩) rfl (fun K hK=>?_)
   go_simp
   refine hK.out _ _ hHeld (fun hHeld=>?_)
   clear hK K
   try simp only [Act.put,List.setIfInBounds_toArray,List.set_cons_zero,List.set_cons_succ]
   refine wpAnyH_done (by kernel_rfl) ?_ _
   go_wp2_with fail
   go_meet
   exact ⟨_,_,rfl,rfl,rfl,Lib.hid ⟨_,_,_,_,_,HP23.out,HL20.out,mm4,mm2,mm0,mm1,HN20.out⟩⟩
  refine AllReadyH.cons (o:=⟨_,_,_,_,_,_⟩) rfl (fun K hK=>?_) AllReadyH.nil
  go_simp
  have HP24:=Lib.hid (HP19.out.alloc (w8.heap.size + 1) (by first | rfl | simp) 46 (qNew 0))
  refine hK.out _ _ (HS.out _ _ _ _ _ _ mm4 mm3 HP24.out) (fun hHeld=>?_)
  clear hK K
  try simp only [Act.put,List.setIfInBounds_toArray,List.set_cons_zero,List.set_cons_succ]
  refine rd1 10 (o:=⟨_,_,_,_,_,_⟩) rfl (fun K hK=>?_)
  go_simp
  go_at_call 35
  refine (HQ.out _ _ HP24.out).mono ?_
  rintro e W25 ⟨A25,c25,l25,rfl,hD25,hl25,hb25⟩
  have HP25:=Lib.hid (HP24.out.call hb25 hD25)
  have HL25:=Lib.hid hl25
  have HN25:=Lib.hid (newp_of HP24.out (w':=W25))
  have hz25:=HP25.out.bel.size
  clear hD25 hl25 hb25
  refine hK.out _ _ (HS.out _ _ _ _ _ _ mm4 mm3 HP25.out) (fun hHeld=>?_)
  clear hK K
  try simp only [Act.put,List.setIfInBounds_toArray,List.set_cons_zero,List.set_cons_succ]
  refine tk 11 (oi:=⟨_,_,_,_,_,_⟩) rfl (fun w' hSw=>by (try dsimp only at hSw);go_simp <;> with_reducible rfl) ?_
  refine tk 12 (oi:=⟨_,_,_,_,_,_⟩) rfl (fun w' hSw=>by (try dsimp only at hSw);go_simp <;> with_reducible rfl) ?_
  refine tk 13 (oi:=⟨_,_,_,_,_,_⟩) rfl (fun w' hSw=>by (try dsimp only at hSw);go_simp <;> with_reducible rfl) ?_
  refine tk 14 (oi:=⟨_,_,_,_,_,_⟩) rfl (fun w' hSw=>by (try dsimp only at hSw);go_simp <;> with_reducible rfl) ?_
  try simp only [Act.put,List.setIfInBounds_toArray,List.set_cons_zero,List.set_cons_succ]
  refine rd1 17 (o:=⟨_,_,_,_,_,_⟩) rfl (fun K hK=>?_)
  refine step_st_row (xs:=qNew 0) (ys:=qV (wr1 k cl sq knd xx vec).k.dm 2 (wr1 k cl sq knd xx vec).k.ep (wr1 k cl sq knd xx vec).k.mv (wr1 k cl sq knd xx vec).k.vr _ (wr1 k cl sq knd xx vec).k.q) (HP25.out.rows _ mm0) (qV_len HQK.out) (by rw [qV_len HQK.out];exact q10_size) (qV_one rfl) rfl _ _ rfl rfl rfl ?_
  intro W26 hr26 hs26 hg26
  have HP26:=Lib.hid (Hp.store (L1:=[]) HP25.out (by omega) hr26 hg26)
  have hz26:=HP26.out.bel.size
  simp only [List.nil_append,List.cons_append] at HP26
  clear hr26 hs26 hg26
  refine hK.out _ _ (HS.out _ _ _ _ _ _ mm4 mm3 HP26.out) (fun hHeld=>?_)
  clear hK K
  try simp only [Act.put,List.setIfInBounds_toArray,List.set_cons_zero,List.set_cons_succ]
  refine rd1 18 (o:=⟨_,_,_,_,_,_⟩) rfl (fun K hK=>?_)
  refine step_st_row (xs:=repC 0 false) (ys:=repC (wr1 k cl sq knd xx vec).er (wr1 k cl sq knd xx vec).was) (HP26.out.rows _ mm1) rfl rep_size (rep_one _ _) rfl _ _ rfl rfl rfl ?_
  intro W27 hr27 hs27 hg27
  have HP27:=Lib.hid (Hp.store (L1:=[_]) HP26.out (by omega) hr27 hg27)
  have hz27:=HP27.out.bel.size
  simp only [List.nil_append,List.cons_append] at HP27
  clear hr27 hs27 hg27
  refine hK.out _ _ (HS.out _ _ _ _ _ _ mm4 mm3 HP27.out) (fun hHeld=>?_)
  clear hK K
  try simp only [Act.put,List.setIfInBounds_toArray,List.set_cons_zero,List.set_cons_succ]
  refine rd1 19 (o:=⟨_,_,_,_,_,_⟩) rfl (fun K hK=>?_)
  go_simp
  refine hK.out _ _ hHeld (fun hHeld=>?_)
  clear hK K
  try simp only [Act.put,List.setIfInBounds_toArray,List.set_cons_zero,List.set_cons_succ]
  refine wpAnyH_done (by kernel_rfl) ?_ _
  go_wp2_with fail
  go_meet
  exact ⟨_,_,rfl,rfl,rfl,Lib.hid ⟨_,_,_,_,_,HP27.out,HL25.out,mm4,mm2,mm0,mm1,HN25.out⟩⟩
 case rest =>
 obtain ⟨w9,hw9⟩ : ∃ w9,w9 = wc:=⟨_,rfl⟩
 subst hw9
 obtain ⟨y2,y3,rfl,rfl,rfl,HD⟩:=hcut
 obtain ⟨L,P',A',c',l',hp,hl',mx,m1,m2,m3,hPP,hPn⟩:=HD.out
 have r2:=hp.rows _ m2
 have rx:=hp.rows _ mx
 have hny3:=row_ne rx (hp.rows _ m3) (show 48 ≠ 52 by decide)
 have hny1:=row_ne rx (hp.rows _ m1) (show 48 ≠ 52 by decide)
 have HR2:=Lib.hid r2
 have HRX:=Lib.hid rx
 have HP9:=Lib.hid (And.intro hp (And.intro hl' (And.intro hPP hPn)))
 have HM:=Lib.hid (And.intro mx (And.intro m1 m3))
 have HL2:=Lib.hid (show (qV (wr1 k cl sq knd xx vec).k.dm 2 (wr1 k cl sq knd xx vec).k.ep (wr1 k cl sq knd xx vec).k.mv (wr1 k cl sq knd xx vec).k.vr (.slice A' l'.length c') (wr1 k cl sq knd xx vec).k.q).length = 31 from qV_len HQK.out)
 clear HD hp hl' mx m1 m2 m3 hPP hPn r2 rx HS HQ HP0
 go_wp2_with (first
  | (refine ld_q10 HR2.out HL2.out rfl _ rfl rfl ?_)
  | (refine st_side HRX.out HQL.out HL2.out (qV_one rfl) rfl _ _ rfl rfl rfl ?_;intro w10 hr10 hs10 hg10;have hk10 : ∀ b,b < w9.heap.size -> b ≠ x -> w10.heap[b]? = w9.heap[b]?:=fun b hb hne=>hg10.block b hb (fun e=>hne (by injection e));have g1:=(HP9.out.1.rows _ HM.out.2.1).keep (hk10 _ (HP9.out.1.lt _ HM.out.2.1) hny1);have g3:=(HP9.out.1.rows _ HM.out.2.2).keep (hk10 _ (HP9.out.1.lt _ HM.out.2.2) hny3);have d0:=g1.cell (j:=0) (u:=.int .i64 (wr1 k cl sq knd xx vec).er) rfl;have d1:=g1.cell (j:=1) (u:=.bool (wr1 k cl sq knd xx vec).was) rfl;have d2:=g1.cell (j:=2) (u:=.slice none 0 0) rfl;have dl:=g1.lt;have e0:=g3.cell (j:=0) (u:=.int .i64 (wr1 k cl sq knd xx vec).er) rfl;have e1:=g3.cell (j:=1) (u:=.bool (wr1 k cl sq knd xx vec).was) rfl;have el:=g3.lt;have HF:=Lib.hid (And.intro hr10 (And.intro hs10 (And.intro hg10 hk10)));clear hr10 hs10 hg10 hk10 g1 g3))
 go_ret
 obtain ⟨hr10,hs10,hg10,hk10⟩:=HF.out
 obtain ⟨hp9,hl9,hPP9,hPn9⟩:=HP9.out
 obtain ⟨hsh8,T8,hs8⟩:=HSH.out
 have hZ8 : ∀ b,Z' b -> b < w8.heap.size:=hsh8.lt
 have hxZ' : ¬ Z' x:=fun hz=>(T8.foot x hz).elim HROWS.out.2.2.2 (fun hge=>by have:=HROWS.out.2.1.lt;omega)
 have hB8 : B <= w8.heap.size:=Nat.le_trans (Nat.le_trans HBW.out T8.size) (Nat.le_refl _)
 have hxB:=HH.out.side.xB
 have hb9 : Below B w8 w9:=hp9.bel.mono hB8
 have hb10 : Below B w8 w10:=⟨hg10.os.trans hb9.os,hg10.tape.trans hb9.tape,hg10.output.trans hb9.output,by have:=hp9.bel.size;have:=hg10.size;omega,fun b hb=>(hk10 b (Nat.lt_of_lt_of_le hb (Nat.le_trans hB8 hp9.bel.size)) (by omega)).trans (hb9.block b hb)⟩
 have hk8 : ∀ b,Z' b -> w10.heap[b]? = w8.heap[b]?:=fun b hb=>(hk10 b (Nat.lt_of_lt_of_le (hZ8 b hb) hp9.bel.size) (fun e=>hxZ' (e ▸ hb))).trans (hp9.bel.block b (hZ8 b hb))
 have hxP : ¬ P' x:=hp9.off _ HM.out.1
 have hsz : w8.heap.size <= w10.heap.size:=Nat.le_trans hp9.bel.size hg10.size
 refine ⟨rfl,Z',P',A',c',l',⟨⟨hsh8.keep hk8 hsz hb10,hr10,hxZ',hxB⟩,wr1_st HH.out.st,hp9.doc.keep (fun b hb=>hk10 b (hp9.doc.lt b hb) (fun e=>hxP (e ▸ hb))) hg10.size,hl9,fun b hb=>⟨fun hz=>?_,fun e=>hxP (e ▸ hb)⟩,fun b hb=>hPP9 b (HH.out.low b hb)⟩,?_⟩
 ·rcases hPn9 b hb with h1 | h1
  ·rcases T8.foot b hz with h2 | h2
   ·exact (HH.out.off b h1).1 h2
   ·have:=HH.out.doc.lt b h1
    have:=HBw.out.size
    omega
  ·have:=hZ8 b hz
   omega
 ·refine ⟨hg10.os.trans (hp9.bel.os.trans (T8.os.trans HBw.out.os)),hg10.tape.trans (hp9.bel.tape.trans (T8.tape.trans HBw.out.tape)),hg10.output.trans (hp9.bel.output.trans (T8.output.trans HBw.out.output)),Nat.le_trans hs8 hsz,fun b hb hf=>?_,fun b hb=>?_⟩
  ·have hbW:=Nat.lt_of_lt_of_le hb HBw.out.size
   have hb8:=Nat.lt_of_lt_of_le hb hs8
   exact (hk10 b (Nat.lt_of_lt_of_le hb8 hp9.bel.size) (fun e=>hf (.inr e))).trans ((hp9.bel.block b hb8).trans ((T8.block b hbW (fun hz=>hf (.inl hz))).trans (HBw.out.block b hb)))
  ·rcases hb with hb | hb
   ·exact (T8.foot b hb).imp .inl (fun hge=>Nat.le_trans HBw.out.size hge)
   ·exact .inl (.inr hb)
end
section
open Go Go.RowKit
theorem Hp.under {w0 W W' : World} {L : List (Nat × TypeId × List Value)} {P : Nat -> Prop} {A : Option Addr} {c : Nat} {l : List Pt} (h : Hp w0 W L P A c l) (hb : Below W.heap.size W W') : Hp w0 W' L P A c l :=
 ⟨h.bel.trans (hb.mono h.bel.size),fun r hr=>(h.rows r hr).keep (hb.block _ (h.lt r hr)),h.nodup,h.off,h.doc.below hb⟩
abbrev act1 : List Value:=[.int .i64 1,.int .i64 0,.int .i64 0,.int .i64 0,.int .i64 3,.int .i64 0,.int .i64 0,.int .i64 0,.int .i64 0,.slice none 0 0,.int .i64 0]
def D3 (w0 wc : World) (x N y2 : Nat) (v0 v1 : Value) (P : Nat -> Prop) : Prop:=∃ L,Hp w0 wc L P none 0 [] /\ (x,48,v0 :: v1 :: qNew 2) ∈ L /\ (N,31,act1) ∈ L /\ (y2,46,qV 2 2 3 0 0 (.slice none 0 0) Be.q0) ∈ L
theorem does1_any {w : World} {B : Nat} {Z : Nat -> Prop} {x s d : Nat} (hS : Side w B Z x s d 0 [] (ks0 2) (qNew 2)) (hBw : B <= w.heap.size) :
  Calls Tryz.prog 10 #[.pointer (some ⟨x,0,none⟩),.agg #[.int .i64 1,.int .i64 0,.int .i64 0,.int .i64 0,.int .i64 3,.int .i64 0,.int .i64 0,.int .i64 0,.int .i64 0,.slice none 0 0,.int .i64 0]] w (DoesP B Z x s d 1 [emptyR 2 2 3 0] (emptyK 2 2 3 0) w):=by
 obtain ⟨N,hN⟩ : ∃ N,N = w.heap.size:=⟨_,rfl⟩
 obtain ⟨W,hW⟩ : ∃ W,W = w.alloc (.cells act1.toArray 31):=⟨_,rfl⟩
 have hbW : Below w.heap.size w W:=by rw [hW];exact (Below.refl _ w).alloc (Nat.le_refl _) _
 have hNW : Row W N 31 act1:=by rw [hW,hN];exact Row.new w _ _
 have hxw:=hS.row.lt
 have hxrow : Row W x 48 (.pointer (some ⟨d,0,none⟩) :: .pointer (some ⟨s,0,none⟩) :: qNew 2):=hS.row.keep (hbW.block _ hxw)
 have q0 : W.cell? ⟨N,0,none⟩ = some (.int .i64 1):=hNW.cell rfl
 have hNl:=hNW.lt
 have hxl:=hxrow.lt
 have HP0 : Hid (Hp W W.drew [(N,31,act1),(x,48,(.pointer (some ⟨d,0,none⟩) :: .pointer (some ⟨s,0,none⟩) :: qNew 2))] (fun b=>b < B) none 0 []):=by
  refine Lib.hid ⟨(Below.refl _ W).drew,fun r hr=>?_,?_,fun r hr hP=>?_,DocW.nil (fun b hb=>Nat.lt_of_lt_of_le hb (Nat.le_trans hBw hbW.size))⟩
  ·simp only [List.mem_cons,List.not_mem_nil,or_false] at hr
   rcases hr with rfl | rfl
   ·exact hNW
   ·exact hxrow
  ·simp only [List.map_cons,List.map_nil,List.nodup_cons,List.mem_cons,List.not_mem_nil,or_false,List.nodup_nil,and_true]
   exact ⟨by omega,not_false⟩
  ·have hxB:=hS.xB
   simp only [List.mem_cons,List.not_mem_nil,or_false] at hr
   rcases hr with rfl | rfl
   ·simp only at hP
    omega
   ·simp only at hP
    omega
 have HQ:=Lib.hid (fun (Wc : World)=>rfound_ok 2 0 0 0 3 (.slice none 0 0) Be.q0 rfl rfl (by decide) (by decide) (by decide) Wc)
 have HS:=Lib.hid (fun (Wc : World) (L : List (Nat × TypeId × List Value)) (P1 : Nat -> Prop) (A1 : Option Addr) (c1 : Nat) (l1 : List Pt) (hx : (x,48,((.pointer (some ⟨d,0,none⟩) :: .pointer (some ⟨s,0,none⟩) :: qNew 2) : List Value)) ∈ L) (hN : (N,31,act1) ∈ L) (hp : Hp W Wc L P1 A1 c1 l1) =>
  show Row Wc x 48 (.pointer (some ⟨d,0,none⟩) :: .pointer (some ⟨s,0,none⟩) :: qNew 2) /\ Wc.cell? ⟨N,4,none⟩ = some (.int .i64 3) from ⟨hp.rows _ hx,(hp.rows _ hN).cell rfl⟩)
 have HQL:=Lib.hid (show (qNew 2).length = 31 from rfl)
 have HSS:=Lib.hid hS
 have HB:=Lib.hid (And.intro hbW hBw)
 have HW:=Lib.hid hW
 have hNe : w.heap.size = N:=hN.symm
 have HNE:=Lib.hid hNe
 clear hNW hxrow hS hbW hxw hW hN hBw
 go_enter Tryz.func10,Tryz.ntmps10
 go_wp2_with fail
 rw [<- HW.out]
 go_cut [5,6] from 32 to 41 (fun s5 s6 wc=>∃ y2 : Nat,s5 = .pointer (some ⟨y2,0,none⟩) /\ s6 = .int .i64 0 /\ Hid (D3 W wc x N y2 (.pointer (some ⟨d,0,none⟩)) (.pointer (some ⟨s,0,none⟩)) (fun b=>b < B)))
 case first =>
  refine wp_region_held_drew (S:=fun w'=>Row w' x 48 (.pointer (some ⟨d,0,none⟩) :: .pointer (some ⟨s,0,none⟩) :: qNew 2) /\ w'.cell? ⟨N,4,none⟩ = some (.int .i64 3)) (by kernel_rfl) ?_ (fun hHeld=>?_)
  ·exact HS.out _ _ _ _ _ _ mm1 mm0 HP0.out
  refine tk 0 (oi:=⟨_,_,_,_,_,_⟩) rfl (fun w' hSw=>by (try dsimp only at hSw);go_simp <;> with_reducible rfl) ?_
  refine tk 1 (oi:=⟨_,_,_,_,_,_⟩) rfl (fun w' hSw=>by (try dsimp only at hSw);go_simp <;> with_reducible rfl) ?_
  refine tk 2 (oi:=⟨_,_,_,_,_,_⟩) rfl (fun w' hSw=>by (try dsimp only at hSw);go_simp <;> with_reducible rfl) ?_
  refine tk 3 (oi:=⟨_,_,_,_,_,_⟩) rfl (fun w' hSw=>by (refine yields_side hSw.1 HQL.out (.tmp 35) ?_ ?_) <;> rfl) ?_
  refine tk 4 (oi:=⟨_,_,_,_,_,_⟩) rfl (fun w' hSw=>by (try dsimp only at hSw);go_simp <;> with_reducible rfl) ?_
  refine tk 5 (oi:=⟨_,_,_,_,_,_⟩) rfl (fun w' hSw=>by (try dsimp only at hSw);go_simp <;> with_reducible rfl) ?_
  try simp only [Act.put,List.setIfInBounds_toArray,List.set_cons_zero,List.set_cons_succ]
  refine wpAnyH_ready (rs:=[6,10]) (by kernel_rfl) (by simp) ?_
  refine AllReadyH.cons (o:=⟨_,_,_,_,_,_⟩) rfl (fun K hK=>?_) ?_
  ·go_simp
   go_at_call 34
   refine (HQ.out _).mono ?_
   rintro e W1 ⟨rfl,hb1⟩
   have HP1:=Lib.hid (HP0.out.under hb1)
   have hz1:=HP1.out.bel.size
   clear hb1
   refine hK.out _ _ (HS.out _ _ _ _ _ _ mm1 mm0 HP1.out) (fun hHeld=>?_)
   clear hK K
   try simp only [Act.put,List.setIfInBounds_toArray,List.set_cons_zero,List.set_cons_succ]
   refine tk 7 (oi:=⟨_,_,_,_,_,_⟩) rfl (fun w' hSw=>by (try dsimp only at hSw);go_simp <;> with_reducible rfl) ?_
   refine tk 8 (oi:=⟨_,_,_,_,_,_⟩) rfl (fun w' hSw=>by (try dsimp only at hSw);go_simp <;> with_reducible rfl) ?_
   refine tk 9 (oi:=⟨_,_,_,_,_,_⟩) rfl (fun w' hSw=>by (try dsimp only at hSw);go_simp <;> with_reducible rfl) ?_
   try simp only [Act.put,List.setIfInBounds_toArray,List.set_cons_zero,List.set_cons_succ]
   refine rd1 10 (o:=⟨_,_,_,_,_,_⟩) rfl (fun K hK=>?_)
   go_simp
   have HP2:=Lib.hid (HP1.out.alloc (W1.heap.size) (by first | rfl | simp) 46 (qNew 0))
   refine hK.out _ _ (HS.out _ _ _ _ _ _ mm2 mm1 HP2.out) (fun hHeld=>?_)
   clear hK K
   try simp only [Act.put,List.setIfInBounds_toArray,List.set_cons_zero,List.set_cons_succ]
   refine rd1 11 (o:=⟨_,_,_,_,_,_⟩) rfl (fun K hK=>?_)
   refine step_st_row (xs:=qNew 0) (ys:=qV 2 2 3 0 0 (.slice none 0 0) Be.q0) (HP2.out.rows _ mm0) rfl q10_size (qV_one rfl) rfl _ _ rfl rfl rfl ?_
   intro W3 hr3 hs3 hg3
   have HP3:=Lib.hid (Hp.store (L1:=[]) HP2.out (by omega) hr3 hg3)
   have hz3:=HP3.out.bel.size
   simp only [List.nil_append,List.cons_append] at HP3
   clear hr3 hs3 hg3
   refine hK.out _ _ (HS.out _ _ _ _ _ _ mm2 mm1 HP3.out) (fun hHeld=>?_)
   clear hK K
   try simp only [Act.put,List.setIfInBounds_toArray,List.set_cons_zero,List.set_cons_succ]
   refine rd1 12 (o:=⟨_,_,_,_,_,_⟩) rfl (fun K hK=>?_)
   go_simp
   refine hK.out _ _ hHeld (fun hHeld=>?_)
   clear hK K
   try simp only [Act.put,List.setIfInBounds_toArray,List.set_cons_zero,List.set_cons_succ]
   refine wpAnyH_done (by kernel_rfl) ?_ _
   go_wp2_with fail
   go_meet
   exact ⟨_,rfl,rfl,Lib.hid ⟨_,HP3.out,mm2,mm1,mm0⟩⟩
  refine AllReadyH.cons (o:=⟨_,_,_,_,_,_⟩) rfl (fun K hK=>?_) AllReadyH.nil
  go_simp
  have HP5:=Lib.hid (HP0.out.alloc (W.heap.size) (by first | rfl | simp) 46 (qNew 0))
  refine hK.out _ _ (HS.out _ _ _ _ _ _ mm2 mm1 HP5.out) (fun hHeld=>?_)
  clear hK K
  try simp only [Act.put,List.setIfInBounds_toArray,List.set_cons_zero,List.set_cons_succ]
  refine rd1 6 (o:=⟨_,_,_,_,_,_⟩) rfl (fun K hK=>?_)
  go_simp
  go_at_call 34
  refine (HQ.out _).mono ?_
  rintro e W6 ⟨rfl,hb6⟩
  have HP6:=Lib.hid (HP5.out.under hb6)
  have hz6:=HP6.out.bel.size
  clear hb6
  refine hK.out _ _ (HS.out _ _ _ _ _ _ mm2 mm1 HP6.out) (fun hHeld=>?_)
  clear hK K
  try simp only [Act.put,List.setIfInBounds_toArray,List.set_cons_zero,List.set_cons_succ]
  refine tk 7 (oi:=⟨_,_,_,_,_,_⟩) rfl (fun w' hSw=>by (try dsimp only at hSw);go_simp <;> with_reducible rfl) ?_
  refine tk 8 (oi:=⟨_,_,_,_,_,_⟩) rfl (fun w' hSw=>by (try dsimp only at hSw);go_simp <;> with_reducible rfl) ?_
  refine tk 9 (oi:=⟨_,_,_,_,_,_⟩) rfl (fun w' hSw=>by (try dsimp only at hSw);go_simp <;> with_reducible rfl) ?_
  try simp only [Act.put,List.setIfInBounds_toArray,List.set_cons_zero,List.set_cons_succ]
  refine rd1 11 (o:=⟨_,_,_,_,_,_⟩) rfl (fun K hK=>?_)
  refine step_st_row (xs:=qNew 0) (ys:=qV 2 2 3 0 0 (.slice none 0 0) Be.q0) (HP6.out.rows _ mm0) rfl q10_size (qV_one rfl) rfl _ _ rfl rfl rfl ?_
  intro W7 hr7 hs7 hg7
  have HP7:=Lib.hid (Hp.store (L1:=[]) HP6.out (by omega) hr7 hg7)
  have hz7:=HP7.out.bel.size
  simp only [List.nil_append,List.cons_append] at HP7
  clear hr7 hs7 hg7
  refine hK.out _ _ (HS.out _ _ _ _ _ _ mm2 mm1 HP7.out) (fun hHeld=>?_)
  clear hK K
  try simp only [Act.put,List.setIfInBounds_toArray,List.set_cons_zero,List.set_cons_succ]
  refine rd1 12 (o:=⟨_,_,_,_,_,_⟩) rfl (fun K hK=>?_)
  go_simp
  refine hK.out _ _ hHeld (fun hHeld=>?_)
  clear hK K
  try simp only [Act.put,List.setIfInBounds_toArray,List.set_cons_zero,List.set_cons_succ]
  refine wpAnyH_done (by kernel_rfl) ?_ _
  go_wp2_with fail
  go_meet
  exact ⟨_,rfl,rfl,Lib.hid ⟨_,HP7.out,mm2,mm1,mm0⟩⟩
 case rest =>
 obtain ⟨w9,hw9⟩ : ∃ w9,w9 = wc:=⟨_,rfl⟩
 subst hw9
 obtain ⟨y2,rfl,rfl,HD⟩:=hcut
 obtain ⟨L,hp,mx,mN,m2⟩:=HD.out
 have r2:=hp.rows _ m2
 have rx:=hp.rows _ mx
 have hNx:=row_ne rx (hp.rows _ mN) (show 48 ≠ 31 by decide)
 have HR2:=Lib.hid r2
 have HRX:=Lib.hid rx
 have HP9:=Lib.hid hp
 have HM:=Lib.hid (And.intro mx mN)
 clear HD hp mx mN m2 r2 rx HS HQ HP0
 go_wp2_with (first
  | (refine ld_q10 HR2.out rfl rfl _ rfl rfl ?_)
  | (refine st_side HRX.out rfl rfl (qV_one rfl) rfl _ _ rfl rfl rfl ?_;intro w10 hr10 hs10 hg10;have HF:=Lib.hid (And.intro hr10 (And.intro hs10 hg10));clear hr10 hs10 hg10))
 obtain ⟨hr10,hs10,hg10⟩:=HF.out
 have hk10 : ∀ b,b < w9.heap.size -> b ≠ x -> w10.heap[b]? = w9.heap[b]?:=fun b hb hne=>hg10.block b hb (fun e=>hne (by injection e))
 have gN:=(HP9.out.rows _ HM.out.2).keep (hk10 _ (HP9.out.lt _ HM.out.2) hNx)
 have x1 : w10.cell? ⟨x,1,none⟩ = some (.pointer (some ⟨s,0,none⟩)):=hr10.cell rfl
 have xl:=hr10.lt
 have n4 : w10.cell? ⟨N,4,none⟩ = some (.int .i64 3):=gN.cell rfl
 have nl:=gN.lt
 have hsz : w.heap.size <= w10.heap.size:=Nat.le_trans HB.out.1.size (Nat.le_trans HP9.out.bel.size hg10.size)
 have hZb : ∀ b,b < w.heap.size -> b ≠ x -> w10.heap[b]? = w.heap[b]?:=fun b hb hne =>
  (hk10 b (Nat.lt_of_lt_of_le hb (Nat.le_trans HB.out.1.size HP9.out.bel.size)) hne).trans ((HP9.out.bel.block b (Nat.lt_of_lt_of_le hb HB.out.1.size)).trans (HB.out.1.block b hb))
 have hxB:=HSS.out.xB
 have hb10 : Below B w w10:=⟨hg10.os.trans (HP9.out.bel.os.trans HB.out.1.os),hg10.tape.trans (HP9.out.bel.tape.trans HB.out.1.tape),hg10.output.trans (HP9.out.bel.output.trans HB.out.1.output),by have:=HB.out.2;have:=hsz;omega,fun b hb=>hZb b (Nat.lt_of_lt_of_le hb HB.out.2) (by omega)⟩
 have hsh10 : ShW w10 B Z s d 4000 0 [] (ks0 2):=HSS.out.sh.keep (fun b hb=>hZb b (HSS.out.sh.lt b hb) (fun e=>HSS.out.nx (e ▸ hb))) hsz hb10
 have hfo : Calls Tryz.prog 15 #[.pointer (some ⟨s,0,none⟩),.int .i64 3] w10.drew (EmptyPost B s d 4000 0 Z 2 2 3 0 w10.drew):=by
  obtain ⟨Fd,Gd,Fk,Ft,lp,g,t,p,st,su,h,rfl⟩:=hsh10.drewN 1
  have hmay : (emptyR 2 2 3 0).May (ks0 2):=⟨⟨by decide,by decide⟩,⟨by decide,by decide⟩,⟨by decide,by decide⟩,⟨by omega,by omega⟩,by decide,Be.okq0⟩
  have hbl : (RK.bytes (emptyR 2 2 3 0)).length <= 32768:=recB_len (RK.May.ok hmay)
  refine found_ok h (by omega) 3 (by decide) rfl (by decide) ?_
  show (encs [(emptyR 2 2 3 0).bytes]).length <= 128 * hB 4000 1
  rw [encs_cons,List.length_append,enc_len]
  have : (encs []).length = 0:=rfl
  have : hB 4000 1 = 1999:=rfl
  omega
 have HFO:=Lib.hid hfo
 have HX:=Lib.hid (And.intro hr10 (And.intro hsh10 (And.intro hb10 (And.intro hZb hsz))))
 have hKeep : ∀ w6,(∃ Z',ShW w6 B Z' s d 4000 (0 + 1) [emptyR 2 2 3 0] (emptyK 2 2 3 0) /\ Turn Z w10.drew Z' w6) -> w6.cell? ⟨x,1,none⟩ = some (.pointer (some ⟨s,0,none⟩)) /\ w6.cell? ⟨N,4,none⟩ = some (.int .i64 3):=fun w6 ⟨Z',_,T⟩ =>
  ⟨(hr10.keep (T.block x xl HSS.out.nx)).cell rfl,(gN.keep (T.block N nl (fun hz=>by have:=HSS.out.sh.lt _ hz;have:=HNE.out;omega))).cell rfl⟩
 have HKE:=Lib.hid hKeep
 clear hr10 hs10 hg10 hk10 gN hsz hZb hxB hb10 hsh10 hfo hKeep
 go_wp2_with fail
 go_region_held3 (fun w'=>w'.cell? ⟨x,1,none⟩ = some (.pointer (some ⟨s,0,none⟩)) /\ w'.cell? ⟨N,4,none⟩ = some (.int .i64 3))
  (first | with_reducible exact ⟨x1,n4⟩ | with_reducible exact HS6.out | go_keep)
  ((go_at_call 15;with_reducible refine HFO.out.mono ?_;intro e w6 hpost;unfold EmptyPost at hpost;obtain ⟨rfl,hp⟩:=hpost;have HP:=Lib.hid hp;have HS6:=Lib.hid (HKE.out w6 hp);clear hp))
 go_wp2_with fail
 go_ret
 obtain ⟨Z',hs6,T6⟩:=HP.out
 obtain ⟨hr10,hsh10,hb10,hZb,hsz⟩:=HX.out
 have hxB:=HSS.out.xB
 have hxZ' : ¬ Z' x:=fun hz=>(T6.foot x hz).elim HSS.out.nx (fun hge=>by have : w10.drew.heap.size <= x:=hge;have : x < w10.heap.size:=xl;have : w10.drew.heap.size = w10.heap.size:=rfl;omega)
 have hB10 : B <= w10.heap.size:=hsh10.tabs.1.le
 have hb6 : Below B w10 w6:=(below_drewN (Below.refl B w10) 1).trans (T6.down (fun b hb=>hsh10.far b hb) hB10)
 refine ⟨rfl,Z',(fun b=>b < B),none,0,[],⟨⟨hs6,hr10.keep (T6.block x xl HSS.out.nx),hxZ',hxB⟩,rfl,DocW.nil (fun b hb=>Nat.lt_of_lt_of_le hb (Nat.le_trans hB10 T6.size)),rfl,fun b hb=>⟨fun hz=>?_,fun e=>by omega⟩,fun b hb=>hb⟩,?_⟩
 ·have:=hs6.far b hz
  omega
 ·have hT : ∀ y,y < w.heap.size -> y < w10.drew.heap.size:=fun y hy=>Nat.lt_of_lt_of_le hy hsz
  refine ⟨T6.os.trans hb10.os,T6.tape.trans hb10.tape,T6.output.trans hb10.output,Nat.le_trans hsz T6.size,fun b hb hf=>?_,fun b hb=>?_⟩
  ·exact (T6.block b (hT b hb) (fun hz=>hf (.inl hz))).trans (hZb b hb (fun e=>hf (.inr e)))
  ·rcases hb with hb | hb
   ·exact (T6.foot b hb).imp .inl (fun hge=>Nat.le_trans hsz hge)
   ·exact .inl (.inr hb)
end
section
open Go Go.RowKit
theorem SX.on {w w' : World} {B : Nat} {Z : Nat -> Prop} {x s d tn : Nat} {R : List RK} {k : KS} {P : Nat -> Prop} {A0 : Option Addr} {c0 : Nat} {l : List Pt} (h : SX w B Z x s d tn R k P A0 c0 l) (hb : Below w.heap.size w w') : SX w' B Z x s d tn R k P A0 c0 l :=
 ⟨h.side.under hb,h.st,h.doc.below hb,h.eq,h.off,h.low⟩
theorem Pts.on {w w' : World} {A : Option Addr} {n : Nat} {l : List Pt} (h : Pts w w.heap.size A n l) (hb : Below w.heap.size w w') : Pts w' w'.heap.size A n l:=(h.below hb).more hb.size
theorem same_any {w : World} {B : Nat} {Z : Nat -> Prop} {x s d tn : Nat} {R : List RK} {k : KS} {P : Nat -> Prop} {A0 : Option Addr} {c0 : Nat} {l : List Pt} (h : SX w B Z x s d tn R k P A0 c0 l) :
  Calls Tryz.prog 14 #[.pointer (some ⟨x,0,none⟩)] w fun e w'=>e = .returned (.bool true) /\ Below w.heap.size w w':=by
 have x1 : w.cell? ⟨x,1,none⟩ = some (.pointer (some ⟨s,0,none⟩)):=h.side.row.cell rfl
 have xl:=h.side.row.lt
 have hst : Calls Tryz.prog 17 #[.pointer (some ⟨s,0,none⟩)] w fun e w'=>e = .returned (.tuple #[.int .i64 2,.int .i64 k.ep,.int .i64 k.vr,.int .i64 k.mv]) /\ ∃ q,w' = w.drewN q:=by
  obtain ⟨Fd,Gd,Fk,Ft,lp,g,t,p,st,su,hh,e⟩:=h.side.sh
  have e1:=stands_any hh
  have e2 : standV k = k.vr:=by unfold standV;simp [h.st]
  rw [e2,h.st] at e1
  exact e1
 have HST:=Lib.hid hst
 have HH:=Lib.hid h
 clear h hst
 go_enter Tryz.func14,Tryz.ntmps14
 go_wp2_with fail
 refine HST.out.mono ?_
 rintro e w1 ⟨rfl,q1,hw1⟩
 have hbw : Below w.heap.size w w1:=by rw [hw1];exact below_drewN (Below.refl _ w) q1
 have h1:=HH.out.on hbw
 have HBW:=Lib.hid hbw
 have HS:=Lib.hid (fun (Wc : World) (hb : Below w1.heap.size w1 Wc)=>show Row Wc x 48 (.pointer (some ⟨d,0,none⟩) :: .pointer (some ⟨s,0,none⟩) :: qV k.dm 2 k.ep k.mv k.vr (.slice A0 l.length c0) k.q) /\ Wc.cell? ⟨x,1,none⟩ = some (.pointer (some ⟨s,0,none⟩)) /\ Wc.cell? ⟨x,3,none⟩ = some (.int .i64 2) /\ Wc.cell? ⟨x,4,none⟩ = some (.int .i64 k.ep) /\ Wc.cell? ⟨x,5,none⟩ = some (.int .i64 k.mv) from
  have r:=h1.side.row.keep (hb.block _ h1.side.row.lt)
  ⟨r,r.cell rfl,r.cell rfl,r.cell rfl,r.cell rfl⟩)
 have hql:=h1.side.sh.good.tab.len
 have HQL:=Lib.hid (show (qV k.dm 2 k.ep k.mv k.vr (.slice A0 l.length c0) k.q).length = 31 from qV_len hql)
 have HV:=Lib.hid (fun (Wc : World)=>rver_any k.dm k.ep k.mv k.vr A0 l.length c0 k.q Wc hql)
 have HPD:=Lib.hid (fun (Wc : World)=>rpts_any k.dm k.ep k.mv k.vr A0 l.length c0 k.q Wc hql)
 have HPP:=Lib.hid (fun (Wc : World) (hb : Below w1.heap.size w1 Wc)=>show Calls Tryz.prog 21 #[.pointer (some ⟨s,0,none⟩)] Wc (PtsF k.T Wc) from by
  obtain ⟨Fd,Gd,Fk,Ft,lp,g,t,p,st,su,hh,e⟩:=h1.side.sh.below hb
  exact spoints_any hh h1.st)
 have HSM:=Lib.hid (fun (Wc : World) (A5 : Option Addr) (n5 c5 : Nat) (l5 : List Pt) (hb : Below w1.heap.size w1 Wc) (hp : Pts Wc Wc.heap.size A5 n5 l5) (hn : n5 <= 512) (hl : l5.map bareP = k.T) =>
  q8same_any A5 A0 n5 l.length c5 c0 Wc.heap.size Wc.heap.size l5 l Wc hp ((h1.on hb).doc.toPts) (Nat.le_refl _) (Nat.le_refl _) (by omega) (by rw [hl,h1.eq]))
 have HB0:=Lib.hid ((Below.refl w1.heap.size w1).drew)
 clear x1 xl hbw h1 hw1 HST HH hql
 go_wp2_with fail
 refine wp_region_held_drew (S:=fun w'=>Row w' x 48 (.pointer (some ⟨d,0,none⟩) :: .pointer (some ⟨s,0,none⟩) :: qV k.dm 2 k.ep k.mv k.vr (.slice A0 l.length c0) k.q) /\ w'.cell? ⟨x,1,none⟩ = some (.pointer (some ⟨s,0,none⟩)) /\ w'.cell? ⟨x,3,none⟩ = some (.int .i64 2) /\ w'.cell? ⟨x,4,none⟩ = some (.int .i64 k.ep) /\ w'.cell? ⟨x,5,none⟩ = some (.int .i64 k.mv)) (by kernel_rfl) ?_ (fun hHeld=>?_)
 ·exact HS.out _ HB0.out
 refine tk 0 (oi:=⟨_,_,_,_,_,_⟩) rfl (fun w' hSw=>by (try dsimp only at hSw);go_simp <;> with_reducible rfl) ?_
 try simp only [Act.put,List.setIfInBounds_toArray,List.set_cons_zero,List.set_cons_succ]
 refine tk 1 (oi:=⟨_,_,_,_,_,_⟩) rfl (fun w' hSw=>by (try dsimp only at hSw);go_simp <;> with_reducible rfl) ?_
 try simp only [Act.put,List.setIfInBounds_toArray,List.set_cons_zero,List.set_cons_succ]
 refine tk 2 (oi:=⟨_,_,_,_,_,_⟩) rfl (fun w' hSw=>by (try dsimp only at hSw);go_simp <;> with_reducible rfl) ?_
 try simp only [Act.put,List.setIfInBounds_toArray,List.set_cons_zero,List.set_cons_succ]
 refine tk 3 (oi:=⟨_,_,_,_,_,_⟩) rfl (fun w' hSw=>by (try dsimp only at hSw);go_simp <;> with_reducible rfl) ?_
 try simp only [Act.put,List.setIfInBounds_toArray,List.set_cons_zero,List.set_cons_succ]
 refine tk 4 (oi:=⟨_,_,_,_,_,_⟩) rfl (fun w' hSw=>by (try dsimp only at hSw);go_simp <;> with_reducible rfl) ?_
 try simp only [Act.put,List.setIfInBounds_toArray,List.set_cons_zero,List.set_cons_succ]
 refine tk 5 (oi:=⟨_,_,_,_,_,_⟩) rfl (fun w' hSw=>by (try dsimp only at hSw);go_simp <;> with_reducible rfl) ?_
 try simp only [Act.put,List.setIfInBounds_toArray,List.set_cons_zero,List.set_cons_succ]
 refine tk 6 (oi:=⟨_,_,_,_,_,_⟩) rfl (fun w' hSw=>by (try dsimp only at hSw);go_simp <;> with_reducible rfl) ?_
 try simp only [Act.put,List.setIfInBounds_toArray,List.set_cons_zero,List.set_cons_succ]
 refine tk 7 (oi:=⟨_,_,_,_,_,_⟩) rfl (fun w' hSw=>by (try dsimp only at hSw);go_simp <;> with_reducible rfl) ?_
 try simp only [Act.put,List.setIfInBounds_toArray,List.set_cons_zero,List.set_cons_succ]
 refine tk 8 (oi:=⟨_,_,_,_,_,_⟩) rfl (fun w' hSw=>by (try dsimp only at hSw);go_simp <;> with_reducible rfl) ?_
 try simp only [Act.put,List.setIfInBounds_toArray,List.set_cons_zero,List.set_cons_succ]
 refine tk 9 (oi:=⟨_,_,_,_,_,_⟩) rfl (fun w' hSw=>by (try dsimp only at hSw);go_simp <;> with_reducible rfl) ?_
 try simp only [Act.put,List.setIfInBounds_toArray,List.set_cons_zero,List.set_cons_succ]
 refine tk 10 (oi:=⟨_,_,_,_,_,_⟩) rfl (fun w' hSw=>by (try dsimp only at hSw);go_simp <;> with_reducible rfl) ?_
 try simp only [Act.put,List.setIfInBounds_toArray,List.set_cons_zero,List.set_cons_succ]
 refine tk 11 (oi:=⟨_,_,_,_,_,_⟩) rfl (fun w' hSw=>by (try dsimp only at hSw);go_simp <;> with_reducible rfl) ?_
 try simp only [Act.put,List.setIfInBounds_toArray,List.set_cons_zero,List.set_cons_succ]
 refine tk 12 (oi:=⟨_,_,_,_,_,_⟩) rfl (fun w' hSw=>by (try dsimp only at hSw);go_simp <;> with_reducible rfl) ?_
 try simp only [Act.put,List.setIfInBounds_toArray,List.set_cons_zero,List.set_cons_succ]
 refine tk 13 (oi:=⟨_,_,_,_,_,_⟩) rfl (fun w' hSw=>by (try dsimp only at hSw);go_simp <;> with_reducible rfl) ?_
 try simp only [Act.put,List.setIfInBounds_toArray,List.set_cons_zero,List.set_cons_succ]
 refine tk 14 (oi:=⟨_,_,_,_,_,_⟩) rfl (fun w' hSw=>by (try dsimp only at hSw);go_simp <;> with_reducible rfl) ?_
 try simp only [Act.put,List.setIfInBounds_toArray,List.set_cons_zero,List.set_cons_succ]
 refine tk 15 (oi:=⟨_,_,_,_,_,_⟩) rfl (fun w' hSw=>by (try dsimp only at hSw);go_simp <;> with_reducible rfl) ?_
 try simp only [Act.put,List.setIfInBounds_toArray,List.set_cons_zero,List.set_cons_succ]
 refine tk 16 (oi:=⟨_,_,_,_,_,_⟩) rfl (fun w' hSw=>by (try dsimp only at hSw);go_simp <;> with_reducible rfl) ?_
 try simp only [Act.put,List.setIfInBounds_toArray,List.set_cons_zero,List.set_cons_succ]
 refine tk 17 (oi:=⟨_,_,_,_,_,_⟩) rfl (fun w' hSw=>by (try dsimp only at hSw);go_simp <;> with_reducible rfl) ?_
 try simp only [Act.put,List.setIfInBounds_toArray,List.set_cons_zero,List.set_cons_succ]
 refine tk 18 (oi:=⟨_,_,_,_,_,_⟩) rfl (fun w' hSw=>by (try dsimp only at hSw);go_simp <;> with_reducible rfl) ?_
 try simp only [Act.put,List.setIfInBounds_toArray,List.set_cons_zero,List.set_cons_succ]
 refine tk 19 (oi:=⟨_,_,_,_,_,_⟩) rfl (fun w' hSw=>by (try dsimp only at hSw);go_simp <;> with_reducible rfl) ?_
 try simp only [Act.put,List.setIfInBounds_toArray,List.set_cons_zero,List.set_cons_succ]
 refine tk 20 (oi:=⟨_,_,_,_,_,_⟩) rfl (fun w' hSw=>by (try dsimp only at hSw);go_simp <;> with_reducible rfl) ?_
 try simp only [Act.put,List.setIfInBounds_toArray,List.set_cons_zero,List.set_cons_succ]
 refine tk 21 (oi:=⟨_,_,_,_,_,_⟩) rfl (fun w' hSw=>by (refine yields_side hSw.1 HQL.out (.tmp 37) ?_ ?_) <;> rfl) ?_
 try simp only [Act.put,List.setIfInBounds_toArray,List.set_cons_zero,List.set_cons_succ]
 refine rd1 22 (o:=⟨_,_,_,_,_,_⟩) rfl (fun K hK=>?_)
 go_simp
 go_at_call 41
 refine (HV.out _).mono ?_
 rintro e W1 ⟨rfl,hb1⟩
 have HB1:=Lib.hid (HB0.out.trans (hb1.mono HB0.out.size))
 clear hb1
 refine hK.out _ _ (HS.out _ HB1.out) (fun hHeld=>?_)
 clear hK K
 try simp only [Act.put,List.setIfInBounds_toArray,List.set_cons_zero,List.set_cons_succ]
 refine tk 23 (oi:=⟨_,_,_,_,_,_⟩) rfl (fun w' hSw=>by (try dsimp only at hSw);go_simp <;> with_reducible rfl) ?_
 try simp only [Act.put,List.setIfInBounds_toArray,List.set_cons_zero,List.set_cons_succ]
 refine tk 24 (oi:=⟨_,_,_,_,_,_⟩) rfl (fun w' hSw=>by (try dsimp only at hSw);go_simp <;> with_reducible rfl) ?_
 try simp only [Act.put,List.setIfInBounds_toArray,List.set_cons_zero,List.set_cons_succ]
 refine tk 25 (oi:=⟨_,_,_,_,_,_⟩) rfl (fun w' hSw=>by (try dsimp only at hSw);go_simp <;> with_reducible rfl) ?_
 try simp only [Act.put,List.setIfInBounds_toArray,List.set_cons_zero,List.set_cons_succ]
 refine tk 26 (oi:=⟨_,_,_,_,_,_⟩) rfl (fun w' hSw=>by (try dsimp only at hSw);go_simp <;> with_reducible rfl) ?_
 try simp only [Act.put,List.setIfInBounds_toArray,List.set_cons_zero,List.set_cons_succ]
 refine tk 27 (oi:=⟨_,_,_,_,_,_⟩) rfl (fun w' hSw=>by (try dsimp only at hSw);go_simp <;> with_reducible rfl) ?_
 try simp only [Act.put,List.setIfInBounds_toArray,List.set_cons_zero,List.set_cons_succ]
 refine tk 28 (oi:=⟨_,_,_,_,_,_⟩) rfl (fun w' hSw=>by (try dsimp only at hSw);go_simp <;> with_reducible rfl) ?_
 try simp only [Act.put,List.setIfInBounds_toArray,List.set_cons_zero,List.set_cons_succ]
 refine tk 29 (oi:=⟨_,_,_,_,_,_⟩) rfl (fun w' hSw=>by (try dsimp only at hSw);go_simp <;> with_reducible rfl) ?_
 try simp only [Act.put,List.setIfInBounds_toArray,List.set_cons_zero,List.set_cons_succ]
 refine tk 30 (oi:=⟨_,_,_,_,_,_⟩) rfl (fun w' hSw=>by (try dsimp only at hSw);go_simp <;> with_reducible rfl) ?_
 try simp only [Act.put,List.setIfInBounds_toArray,List.set_cons_zero,List.set_cons_succ]
 refine tk 31 (oi:=⟨_,_,_,_,_,_⟩) rfl (fun w' hSw=>by (try dsimp only at hSw);go_simp <;> with_reducible rfl) ?_
 try simp only [Act.put,List.setIfInBounds_toArray,List.set_cons_zero,List.set_cons_succ]
 refine tk 32 (oi:=⟨_,_,_,_,_,_⟩) rfl (fun w' hSw=>by (try dsimp only at hSw);go_simp <;> with_reducible rfl) ?_
 try simp only [Act.put,List.setIfInBounds_toArray,List.set_cons_zero,List.set_cons_succ]
 refine tk 33 (oi:=⟨_,_,_,_,_,_⟩) rfl (fun w' hSw=>by (try dsimp only at hSw);go_simp <;> with_reducible rfl) ?_
 try simp only [Act.put,List.setIfInBounds_toArray,List.set_cons_zero,List.set_cons_succ]
 refine tk 34 (oi:=⟨_,_,_,_,_,_⟩) rfl (fun w' hSw=>by (try dsimp only at hSw);go_simp <;> with_reducible rfl) ?_
 try simp only [Act.put,List.setIfInBounds_toArray,List.set_cons_zero,List.set_cons_succ]
 refine tk 35 (oi:=⟨_,_,_,_,_,_⟩) rfl (fun w' hSw=>by (try dsimp only at hSw);go_simp <;> with_reducible rfl) ?_
 try simp only [Act.put,List.setIfInBounds_toArray,List.set_cons_zero,List.set_cons_succ]
 refine tk 36 (oi:=⟨_,_,_,_,_,_⟩) rfl (fun w' hSw=>by (try dsimp only at hSw);go_simp <;> with_reducible rfl) ?_
 try simp only [Act.put,List.setIfInBounds_toArray,List.set_cons_zero,List.set_cons_succ]
 refine tk 37 (oi:=⟨_,_,_,_,_,_⟩) rfl (fun w' hSw=>by (try dsimp only at hSw);go_simp <;> with_reducible rfl) ?_
 try simp only [Act.put,List.setIfInBounds_toArray,List.set_cons_zero,List.set_cons_succ]
 refine tk 38 (oi:=⟨_,_,_,_,_,_⟩) rfl (fun w' hSw=>by (try dsimp only at hSw);go_simp <;> with_reducible rfl) ?_
 try simp only [Act.put,List.setIfInBounds_toArray,List.set_cons_zero,List.set_cons_succ]
 refine tk 40 (oi:=⟨_,_,_,_,_,_⟩) rfl (fun w' hSw=>by (try dsimp only at hSw);go_simp <;> with_reducible rfl) ?_
 try simp only [Act.put,List.setIfInBounds_toArray,List.set_cons_zero,List.set_cons_succ]
 refine tk 41 (oi:=⟨_,_,_,_,_,_⟩) rfl (fun w' hSw=>by (try dsimp only at hSw);go_simp <;> with_reducible rfl) ?_
 try simp only [Act.put,List.setIfInBounds_toArray,List.set_cons_zero,List.set_cons_succ]
 refine tk 42 (oi:=⟨_,_,_,_,_,_⟩) rfl (fun w' hSw=>by (try dsimp only at hSw);go_simp <;> with_reducible rfl) ?_
 try simp only [Act.put,List.setIfInBounds_toArray,List.set_cons_zero,List.set_cons_succ]
 refine tk 43 (oi:=⟨_,_,_,_,_,_⟩) rfl (fun w' hSw=>by (refine yields_side hSw.1 HQL.out (.tmp 59) ?_ ?_) <;> rfl) ?_
 try simp only [Act.put,List.setIfInBounds_toArray,List.set_cons_zero,List.set_cons_succ]
 refine rd1 39 (o:=⟨_,_,_,_,_,_⟩) rfl (fun K hK=>?_)
 go_simp
 go_at_call 21
 refine (HPP.out _ HB1.out).mono ?_
 rintro e W2 ⟨A5,n5,c5,l5,rfl,hp5,hn5,hl5,hb2,_,_⟩
 have HB2:=Lib.hid (HB1.out.trans (hb2.mono HB1.out.size))
 have HP5:=Lib.hid (And.intro hp5 (And.intro hn5 hl5))
 clear hp5 hn5 hl5 hb2
 refine hK.out _ _ (HS.out _ HB2.out) (fun hHeld=>?_)
 clear hK K
 try simp only [Act.put,List.setIfInBounds_toArray,List.set_cons_zero,List.set_cons_succ]
 refine rd1 44 (o:=⟨_,_,_,_,_,_⟩) rfl (fun K hK=>?_)
 go_simp
 go_at_call 42
 refine (HPD.out _).mono ?_
 rintro e W3 ⟨rfl,hb3⟩
 have HB3:=Lib.hid (HB2.out.trans (hb3.mono HB2.out.size))
 have HP5:=Lib.hid (And.intro (HP5.out.1.on hb3) HP5.out.2)
 clear hb3
 refine hK.out _ _ (HS.out _ HB3.out) (fun hHeld=>?_)
 clear hK K
 try simp only [Act.put,List.setIfInBounds_toArray,List.set_cons_zero,List.set_cons_succ]
 refine rd1 45 (o:=⟨_,_,_,_,_,_⟩) rfl (fun K hK=>?_)
 go_simp
 go_at_call 20
 refine (HSM.out _ _ _ _ _ HB3.out HP5.out.1 HP5.out.2.1 HP5.out.2.2).mono ?_
 rintro e W9 ⟨rfl,q9,rfl⟩
 have HB9:=Lib.hid (below_drewN HB3.out q9)
 refine hK.out _ _ (HS.out _ HB9.out) (fun hHeld=>?_)
 clear hK K
 try simp only [Act.put,List.setIfInBounds_toArray,List.set_cons_zero,List.set_cons_succ]
 refine tk 46 (oi:=⟨_,_,_,_,_,_⟩) rfl (fun w' hSw=>by (try dsimp only at hSw);go_simp <;> with_reducible rfl) ?_
 try simp only [Act.put,List.setIfInBounds_toArray,List.set_cons_zero,List.set_cons_succ]
 refine rd1 47 (o:=⟨_,_,_,_,_,_⟩) rfl (fun K hK=>?_)
 go_simp
 refine hK.out _ _ hHeld (fun hHeld=>?_)
 clear hK K
 try simp only [Act.put,List.setIfInBounds_toArray,List.set_cons_zero,List.set_cons_succ]
 refine wpAnyH_done (by kernel_rfl) ?_ _
 go_wp2_with fail
 go_ret
 exact ⟨rfl,HBW.out.trans (HB9.out.mono HBW.out.size)⟩
end
section
open Go Go.RowKit
theorem long_any (cl sq knd xx K : Int) (A : Option Addr) (n c : Nat) (w : World) : Calls Tryz.prog 11 #[.agg #[.int .i64 2,.int .i64 cl,.int .i64 sq,.int .i64 0,.int .i64 0,.int .i64 0,.int .i64 0,.int .i64 knd,.int .i64 xx,.slice A n c,.int .i64 K]] w fun e w'=>e = .returned (.bool (decide ((40 : Int) < (n : Int)))) /\ Below w.heap.size w w':=by
 have hb : ∀ o,Below w.heap.size w (w.alloc o):=fun o=>(Below.refl _ w).alloc (Nat.le_refl _) _
 have HB:=Lib.hid hb
 clear hb
 go_enter Tryz.func11,Tryz.ntmps11
 go_wp2
 go_ret
 exact ⟨rfl,HB.out _⟩
end
section
open Go Go.ChangeShapes Go.WideShapes Go.ChangeAt Go.RowKit
theorem trod_struct4s {H : Type} {P : Program} {w : World} {base : Nat} {enc : TypeId × Value -> H} {spare : Nat -> Bool} {held : Bool} {t : TypeId} {f0 f1 f2 f3 : Field} {fuel : Nat} {cs : List Value} {x : DataW H × List MemPlace} (ht : P.underlying t = some (.struct #[f0,f1,f2,f3])) (h : DataW.trod enc P w base spare held fuel t cs = some x) :
  ∃ y0 y1 y2 y3 n,DataW.trod enc P w base spare held n f0.type ((cs.drop f0.offset).take (P.cellsOf f0.type)) = some y0 /\
   DataW.trod enc P w base spare held n f1.type ((cs.drop f1.offset).take (P.cellsOf f1.type)) = some y1 /\ DataW.trod enc P w base spare held n f2.type ((cs.drop f2.offset).take (P.cellsOf f2.type)) = some y2 /\ DataW.trod enc P w base spare held n f3.type ((cs.drop f3.offset).take (P.cellsOf f3.type)) = some y3:=by
 obtain ⟨xs,n,_,rfl,hl,hlen,hf⟩:=DataW.trod_struct ht h
 match xs,hlen with
 | [y0,y1,y2,y3],_=>exact ⟨y0,y1,y2,y3,n,by simpa using hf 0 f0 rfl,by simpa using hf 1 f1 rfl,by simpa using hf 2 f2 rfl,by simpa using hf 3 f3 rfl⟩
theorem cells29 : Tryz.prog.cellsOf 29 = 4:=by kernel_rfl
structure ChAt (w : World) (B : Nat) (ad : Addr) (kd x K : Int) (A : Option Addr) (n c : Nat) (v : List Int) : Prop where
 c0 : w.cell? ad = some (.int .i64 kd)
 c1 : w.cell? ⟨ad.block,ad.off + 1,none⟩ = some (.int .i64 x)
 c2 : w.cell? ⟨ad.block,ad.off + 2,none⟩ = some (.slice A n c)
 c3 : w.cell? ⟨ad.block,ad.off + 3,none⟩ = some (.int .i64 K)
 lt : ad.block < B
 rd : Reads w B 1 A n (ints v)
 max : n <= maxLen
 x64 : Be.S64 x
theorem ChAt.below {w w' : World} {B : Nat} {ad : Addr} {kd x K : Int} {A : Option Addr} {n c : Nat} {v : List Int} (h : ChAt w B ad kd x K A n c v) (hb : Below B w w') : ChAt w' B ad kd x K A n c v :=
 ⟨(hb.cell h.lt).trans h.c0,(hb.cell (p:=⟨ad.block,ad.off + 1,none⟩) h.lt).trans h.c1,(hb.cell (p:=⟨ad.block,ad.off + 2,none⟩) h.lt).trans h.c2,(hb.cell (p:=⟨ad.block,ad.off + 3,none⟩) h.lt).trans h.c3,h.lt,h.rd.below hb,h.max,h.x64⟩
def ChsAt (w : World) (B : Nat) (A : Option Addr) (n : Nat) : Prop:=∀ i,i < n -> ∃ ad kd x K A1 n1 c1 v,A = some ad /\ ChAt w B (ad.add (i * 4)) kd x K A1 n1 c1 v
section
variable {H : Type} {enc : TypeId × Value -> H} {W : World} {spare : Nat -> Bool} {a : Option Addr} {len cap : Nat} {d : DataW H} {p : List MemPlace} {hd : Bool}
theorem open_Chs (h : DataW.Trod enc Tryz.prog W 0 spare hd 22 (.slice a len cap) d p) : ChsAt W W.heap.size a len /\ len <= maxLen:=by
 obtain ⟨fuel,hf⟩:=h
 rcases Go.Deep.open_slice Tryz.underlying22 hf with ⟨hcs,_⟩ | ⟨x,l,c,m,n,D,Pl,hcs,_,hl,hm,hmm,_,hx⟩
 ·simp [Value.cells] at hcs
  obtain ⟨rfl,rfl,rfl⟩:=hcs
  exact ⟨fun i hi=>absurd hi (by omega),by decide⟩
 ·simp [Value.cells] at hcs
  obtain ⟨rfl,rfl,rfl⟩:=hcs
  have hml : len <= m:=by rw [hmm];split <;> omega
  refine ⟨fun i hi=>?_,by omega⟩
  obtain ⟨cs',h1,h2⟩:=hx i (by omega)
  rw [cells29] at h1
  obtain ⟨_,hl3,hc⟩:=World.cells?_some h1
  obtain ⟨y0,y1,y2,y3,m',e0,e1,e2,e3⟩:=trod_struct4s Tryz.underlying29 h2
  obtain ⟨z0,g0,_,wz0⟩:=DataW.trod_int Tryz.underlying3 e0
  obtain ⟨z1,g1,_,wz1⟩:=DataW.trod_int Tryz.underlying3 e1
  obtain ⟨z3,g3,_,wz3⟩:=DataW.trod_int Tryz.underlying3 e3
  rw [cells3] at g0 g1 g3
  simp only [cells27] at e2
  match cs',hl3 with
  | [c0,c1,c2,c3],_ =>
   simp at g0 g1 g3
   subst g0 g1 g3
   have e4 : DataW.trod enc Tryz.prog W 0 spare hd m' 27 [c2] = some y2:=e2
   obtain ⟨b,k,cc,hc1⟩ : ∃ b k cc,c2 = .slice b k cc:=by
    rcases Go.Deep.open_slice Tryz.underlying27 e4 with ⟨hcs,_⟩ | ⟨x,l,c,m,n,D,Pl,hcs,_⟩
    ·exact ⟨none,0,0,by simpa using hcs⟩
    ·exact ⟨some x,l,c,by simpa using hcs⟩
   subst hc1
   obtain ⟨L,hL,hLm⟩:=open_l (d:=y2.1) (p:=y2.2) ⟨m',e4⟩
   have k0:=hc 0 (by omega)
   have k1:=hc 1 (by omega)
   have k2:=hc 2 (by omega)
   have k3:=hc 3 (by omega)
   have hq : ((x.add (i * 4)).add 0) = x.add (i * 4):=by unfold Addr.add;simp
   rw [hq] at k0
   exact ⟨x,z0,z1,z3,b,k,cc,L,rfl,⟨k0,k1,k2,k3,lt_of_cell k0,hL,hLm,i64_of_wf wz1⟩⟩
end
end
end Go.Proofs.YtegjjhjgfkcbhaaGreatDoor
