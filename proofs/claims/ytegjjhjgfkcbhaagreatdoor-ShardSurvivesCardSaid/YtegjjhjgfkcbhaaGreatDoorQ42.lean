/- SChunk SStand SSh SBegin SEmpty SFound. Conditions: as each part says. -/
import Derived.Test.YtegjjhjgfkcbhaaGreatDoorQ33
import Derived.Test.YtegjjhjgfkcbhaaGreatDoorQ48
import Derived.RangeFuncNested
import Derived.RangeFuncBound
import Derived.RangeFuncCalls
import Derived.RangeFuncLeaves
import Derived.RangeFuncBox
import Derived.Shelf.Abstract
import Derived.OwnWalkIn
import Derived.TacticsInMore
import Derived.LoopNIn
import Derived.LoopIn
set_option linter.unusedVariables false
set_option linter.unusedSimpArgs false
set_option maxRecDepth 100000
set_option maxHeartbeats 16000000
namespace Go.Proofs.YtegjjhjgfkcbhaaGreatDoor
section
open Go Go.RowKit Go.Shelf
attribute [local go_sem] Oper.semAt_some
theorem chunk_any (A : Option Addr) (n c : Nat) (w : World) : Calls Tryz.prog 122 #[.slice A n c,.int .i64 128] w fun e w'=>e = .returned (.func (.func 160) #[] #[.pointer (some ⟨w.heap.size,0,none⟩),.pointer (some ⟨w.heap.size + 1,0,none⟩)]) /\ w' = (w.alloc (.cells #[.slice A n c] 38)).alloc (.cells #[.int .i64 128] 3):=by
 have hb:=(Row.new (w.alloc (.cells #[.slice A n c] 38)) 3 [.int .i64 128])
 have c0 : ((w.alloc (.cells #[.slice A n c] 38)).alloc (.cells #[.int .i64 128] 3)).cell? ⟨(w.alloc (.cells #[.slice A n c] 38)).heap.size,0,none⟩ = some (.int .i64 128):=hb.cell rfl
 rw [World.size_alloc] at c0
 go_enter Tryz.func122,Tryz.ntmps122
 go_wp2_with fail
 go_ret
 exact ⟨rfl,rfl⟩
theorem chunkC_nil (F : Fence) (n : Nat) (h7 : F.fn 160) (hro : F.round = none) (l Bs Bn : Nat) (A : Option Addr) (c : Nat) (J : List Nat -> World -> Prop) (W : World) (hBs : W.cell? ⟨Bs,0,none⟩ = some (.slice A 0 c)) (h0 : J [] W) :
  CallsIn F n Tryz.prog 160 #[.func (.yield l) #[] #[],.pointer (some ⟨Bs,0,none⟩),.pointer (some ⟨Bn,0,none⟩)] W fun e W'=>(∃ v,e = .returned v) /\ J [] W':=by
 refine callsIn_of_wp Tryz.func160 rfl h7 ?_ hro
 simp only [Tryz.ntmps160,List.size_toArray,List.length_cons,List.length_nil,Nat.reduceAdd,Nat.reduceSub,Array.replicate_succ,Array.replicate_zero,List.push_toArray,List.append_toArray,List.nil_append,List.cons_append]
 gi_wp2
 gi_loopw [4] (fun i wr=>i = .int .i64 0 /\ wr.cell? ⟨Bs,0,none⟩ = some (.slice A 0 c) /\ J [] wr) (fun _ _=>0)
 case atStart=>exact ⟨rfl,hBs,h0⟩
 case round =>
  obtain ⟨rfl,hB,hJs⟩:=hrel
  gi_wp2
  go_end0
  exact ⟨⟨_,rfl⟩,hJs⟩
end
section
open Go Go.RowKit Go.Shelf
attribute [local go_sem] Oper.semAt_some
def StandPost (rs : List RK) (w : World) (e : Ending) (w' : World) : Prop:=∃ A n c,e = .returned (.slice A n c) /\ n = rs.length /\ w'.ownsRow w.heap.size 9 1 (.slice A n c) n (strL (rs.map RK.bytes)) /\ Below w.heap.size w w'
theorem t_pts {w : World} {F : Nat -> Prop} {t dim : Nat} {T : List Pnt} (h : Tree w F t dim T) : Calls Tryz.prog 51 #[.pointer (some ⟨t,0,none⟩)] w (PtsPost T w):=by
 obtain ⟨bm,fm,rv,N,B,U,ht,hp⟩:=h.mem
 exact vpts_any ht hp h.rise
structure StBox (w wc : World) (F Ft : Nat -> Prop) (g t p : Nat) (k : KS) (X : Nat) (st ep mv : Int) : Prop where
 row : Row wc X 107 [.int .i64 1,.int .i64 st,.int .i64 ep,.int .i64 mv,.int .i64 k.vr,.int .i64 (k.dm : Int),.int .i64 0,.int .i64 0,.string (Be.textB k.q),.slice none 0 0]
 kept : KeptR wc F Ft g t p k
 bel : Below w.heap.size w wc
theorem stbox_set {w w2 : World} {F Ft : Nat -> Prop} {g t p : Nat} {k : KS} (hr : Row w2 w.heap.size 107 (rcl rec0 (.slice none 0 0))) (hk : KeptR w2 F Ft g t p k) (hb : Below w.heap.size w w2) (hF : ∀ b,F b -> b < w.heap.size) (st ep mv : Int) :
  StBox w ((((((((((w2.setCell ⟨w.heap.size,0,none⟩ (.int .i64 1)).setCell ⟨w.heap.size,1,none⟩ (.int .i64 st)).setCell ⟨w.heap.size,2,none⟩ (.int .i64 ep)).setCell ⟨w.heap.size,3,none⟩ (.int .i64 mv)).setCell ⟨w.heap.size,4,none⟩ (.int .i64 k.vr)).setCell ⟨w.heap.size,5,none⟩ (.int .i64 (k.dm : Int))).setCell ⟨w.heap.size,6,none⟩ (.int .i64 0)).setCell ⟨w.heap.size,7,none⟩ (.int .i64 0)).setCell ⟨w.heap.size,8,none⟩ (.string (Be.textB k.q))).setCell ⟨w.heap.size,9,none⟩ (.slice none 0 0)) F Ft g t p k w.heap.size st ep mv:=by
 have hT : Turn (fun b=>b = w.heap.size) w2 (fun b=>b = w.heap.size) ((((((((((w2.setCell ⟨w.heap.size,0,none⟩ (.int .i64 1)).setCell ⟨w.heap.size,1,none⟩ (.int .i64 st)).setCell ⟨w.heap.size,2,none⟩ (.int .i64 ep)).setCell ⟨w.heap.size,3,none⟩ (.int .i64 mv)).setCell ⟨w.heap.size,4,none⟩ (.int .i64 k.vr)).setCell ⟨w.heap.size,5,none⟩ (.int .i64 (k.dm : Int))).setCell ⟨w.heap.size,6,none⟩ (.int .i64 0)).setCell ⟨w.heap.size,7,none⟩ (.int .i64 0)).setCell ⟨w.heap.size,8,none⟩ (.string (Be.textB k.q))).setCell ⟨w.heap.size,9,none⟩ (.slice none 0 0)) :=
  (turn_one _ _ 0 _).trans ((turn_one _ _ 1 _).trans ((turn_one _ _ 2 _).trans ((turn_one _ _ 3 _).trans ((turn_one _ _ 4 _).trans ((turn_one _ _ 5 _).trans ((turn_one _ _ 6 _).trans ((turn_one _ _ 7 _).trans ((turn_one _ _ 8 _).trans (turn_one _ _ 9 _)))))))))
 exact ⟨(((((((((hr.set 0 (.int .i64 1)).set 1 (.int .i64 st)).set 2 (.int .i64 ep)).set 3 (.int .i64 mv)).set 4 (.int .i64 k.vr)).set 5 (.int .i64 (k.dm : Int))).set 6 (.int .i64 0)).set 7 (.int .i64 0)).set 8 (.string (Be.textB k.q))).set 9 (.slice none 0 0),hk.turn hT (fun b hb e=>by have:=hF b hb;omega),hb.trans (hT.down (fun b e=>by omega) hb.size)⟩
section
variable {w w' : World} {F Ft : Nat -> Prop} {g t p : Nat} {k : KS}
theorem standing_nil (h : KeptR w F Ft g t p k) (hg : k.Good) (hT0 : k.T = []) (st ep mv : Int) (h1 : Be.S64 st) (h2 : Be.S64 ep) (h3 : Be.S64 mv) (hT : Be.Tabs w w.heap.size) :
  Calls Tryz.prog 77 #[.pointer (some ⟨g,0,none⟩),.int .i64 st,.int .i64 ep,.int .i64 mv] w (StandPost [wholeK k st ep mv] w):=by
 have c0:=h.c0
 have c4:=h.c4
 have c6:=h.c6
 have hgl:=h.gl
 have h1' : KeptR (w.alloc (.cells #[.int .i64 0,.int .i64 0,.int .i64 0,.int .i64 0,.int .i64 0,.int .i64 0,.int .i64 0,.int .i64 0,.string ⟨#[]⟩,.slice none 0 0] 107)) F Ft g t p k:=h.below ((Below.refl _ _).alloc (Nat.le_refl _) _)
 have hX0 : Row (w.alloc (.cells #[.int .i64 0,.int .i64 0,.int .i64 0,.int .i64 0,.int .i64 0,.int .i64 0,.int .i64 0,.int .i64 0,.string ⟨#[]⟩,.slice none 0 0] 107)) w.heap.size 107 (rcl rec0 (.slice none 0 0)):=Row.new w 107 (rcl rec0 (.slice none 0 0))
 have hb0 : Below w.heap.size w (w.alloc (.cells #[.int .i64 0,.int .i64 0,.int .i64 0,.int .i64 0,.int .i64 0,.int .i64 0,.int .i64 0,.int .i64 0,.string ⟨#[]⟩,.slice none 0 0] 107)).drew:=((Below.refl _ _).alloc (Nat.le_refl _) _).drew
 have hgX : w.heap.size ≠ g:=Nat.ne_of_gt h.gl
 have HTx:=Lib.hid (show Calls Tryz.prog 121 #[.pointer (some ⟨p,0,none⟩)] (w.alloc (.cells #[.int .i64 0,.int .i64 0,.int .i64 0,.int .i64 0,.int .i64 0,.int .i64 0,.int .i64 0,.int .i64 0,.string ⟨#[]⟩,.slice none 0 0] 107)).drew (fun e w'=>e = .returned (.string (Be.textB k.q)) /\ Below (w.alloc (.cells #[.int .i64 0,.int .i64 0,.int .i64 0,.int .i64 0,.int .i64 0,.int .i64 0,.int .i64 0,.int .i64 0,.string ⟨#[]⟩,.slice none 0 0] 107)).drew.heap.size (w.alloc (.cells #[.int .i64 0,.int .i64 0,.int .i64 0,.int .i64 0,.int .i64 0,.int .i64 0,.int .i64 0,.int .i64 0,.string ⟨#[]⟩,.slice none 0 0] 107)).drew w') from Be.ttext_any (h1'.drewN 1).tab ((hT.on hb0).up hb0.size))
 have HTy:=Lib.hid (show Calls Tryz.prog 121 #[.pointer (some ⟨p,0,none⟩)] w.drew (fun e w'=>e = .returned (.string (Be.textB k.q)) /\ Below w.drew.heap.size w.drew w') from Be.ttext_any (h.drewN 1).tab (hT.on ((Below.refl _ _).drew)))
 have HA:=Lib.hid (show ∀ w2,Below (w.alloc (.cells #[.int .i64 0,.int .i64 0,.int .i64 0,.int .i64 0,.int .i64 0,.int .i64 0,.int .i64 0,.int .i64 0,.string ⟨#[]⟩,.slice none 0 0] 107)).drew.heap.size (w.alloc (.cells #[.int .i64 0,.int .i64 0,.int .i64 0,.int .i64 0,.int .i64 0,.int .i64 0,.int .i64 0,.int .i64 0,.string ⟨#[]⟩,.slice none 0 0] 107)).drew w2 -> (w2.cell? ⟨g,0,none⟩ = some (.int .i64 (k.dm : Int)) /\ w2.cell? ⟨g,4,none⟩ = some (.int .i64 k.vr) /\ w2.cell? ⟨g,6,none⟩ = some (.pointer (some ⟨p,0,none⟩))) /\ Row w2 w.heap.size 107 (rcl rec0 (.slice none 0 0)) /\ KeptR w2 F Ft g t p k /\ Below w.heap.size w w2 /\ w.heap.size ≠ g from fun w2 hb=>⟨⟨((h1'.drewN 1).below hb).c0,((h1'.drewN 1).below hb).c4,((h1'.drewN 1).below hb).c6⟩,hX0.keep (hb.block _ hX0.lt),(h1'.drewN 1).below hb,hb0.trans (hb.mono hb0.size),hgX⟩)
 have HC:=Lib.hid (show ∀ w2,Below w.drew.heap.size w.drew w2 -> (w2.cell? ⟨g,0,none⟩ = some (.int .i64 (k.dm : Int)) /\ w2.cell? ⟨g,4,none⟩ = some (.int .i64 k.vr) /\ w2.cell? ⟨g,6,none⟩ = some (.pointer (some ⟨p,0,none⟩))) /\ KeptR w2 F Ft g t p k /\ Below w.heap.size w w2 /\ w2.heap.size ≠ g from fun w2 hb=>⟨⟨((h.drewN 1).below hb).c0,((h.drewN 1).below hb).c4,((h.drewN 1).below hb).c6⟩,(h.drewN 1).below hb,((Below.refl _ _).drew).trans hb,Nat.ne_of_gt ((h.drewN 1).below hb).gl⟩)
 clear h1' hX0 hb0
 have H:=Lib.hid h
 have HT:=Lib.hid hT
 clear h hT
 refine (callsIn_wide (n:=8)).1 ?_
 refine callsIn_of_wp_marks Tryz.func77 rfl trivial ?_ rfl
 simp only [Tryz.ntmps77,List.size_toArray,List.length_cons,List.length_nil,Nat.reduceAdd,Nat.reduceSub,Array.replicate_succ,Array.replicate_zero,List.push_toArray,List.append_toArray,List.nil_append,List.cons_append]
 refine wpIn_wide.2 ?_
 go_upto_region 1 with fail
 go_cut [9] from 13 to 29 (fun s9 wc=>∃ X : Nat,s9 = .pointer (some ⟨X,0,none⟩) /\ Hid (StBox w wc F Ft g t p k X st ep mv))
 case first =>
  go_region_held3 (fun w'=>w'.cell? ⟨g,0,none⟩ = some (.int .i64 (k.dm : Int)) /\ w'.cell? ⟨g,4,none⟩ = some (.int .i64 k.vr) /\ w'.cell? ⟨g,6,none⟩ = some (.pointer (some ⟨p,0,none⟩)))
   (first | with_reducible exact ⟨c0,c4,c6⟩ | with_reducible exact HS.out | go_keep)
   (first
    | (go_at_call 121;with_reducible refine HTx.out.mono ?_;intro e w2 hpost;obtain ⟨rfl,hb2⟩:=hpost;have HE:=Lib.hid (HA.out w2 hb2);have HS:=Lib.hid HE.out.1;obtain ⟨s0,s4,s6⟩:=HE.out.1;obtain ⟨x0,x1,x2,x3,x4,x5,x6,x7,x8,x9⟩:=rec_cells HE.out.2.1;have zX:=fun j=>HE.out.2.1.frozen j;have hXl:=HE.out.2.1.lt;have hne:=HE.out.2.2.2.2;clear hb2)
    | (go_at_call 121;with_reducible refine HTy.out.mono ?_;intro e w2 hpost;obtain ⟨rfl,hb2⟩:=hpost;have HE:=Lib.hid (HC.out w2 hb2);have HS:=Lib.hid HE.out.1;obtain ⟨s0,s4,s6⟩:=HE.out.1;have hne:=HE.out.2.2.2;clear hb2))
  all_goals
   go_wp2_with fail
   go_meet
  ·have hb3 : Below w2.heap.size w2 (w2.alloc (.cells #[.int .i64 1,.int .i64 st,.int .i64 ep,.int .i64 mv,.int .i64 k.vr,.int .i64 (k.dm : Int),.int .i64 0,.int .i64 0,.string (Be.textB k.q),.slice none 0 0] 107)):=(Below.refl _ _).alloc (Nat.le_refl _) _
   exact ⟨_,rfl,Lib.hid ⟨Row.new w2 107 _,HE.out.2.1.below hb3,HE.out.2.2.1.trans (hb3.mono HE.out.2.2.1.size)⟩⟩
  ·exact ⟨_,rfl,Lib.hid (stbox_set HE.out.2.1 HE.out.2.2.1 HE.out.2.2.2.1 H.out.lt st ep mv)⟩
 case rest =>
  obtain ⟨X,rfl,HX⟩:=hcut
  clear HTx HTy HA HC c0 c4 c6
  obtain ⟨x0,x1,x2,x3,x4,x5,x6,x7,x8,x9⟩:=rec_cells (r:=⟨1,st,ep,mv,k.vr,k.dm,0,0,Be.textB k.q,[]⟩) HX.out.row
  have hXl:=HX.out.row.lt
  have hok : (⟨1,st,ep,mv,k.vr,k.dm,0,0,Be.textB k.q,[]⟩ : Rec).Ok:=RK.May.ok (k:=ks0 k.dm) (r:=wholeK k st ep mv) ⟨h1,h2,h3,⟨hg.v0,hg.v1⟩,hg.d2,hg.tab⟩
  have hpt : Pts wc wc.heap.size none 0 []:=⟨Reads.none_,fun q hq=>by cases hq⟩
  have htx:=rtext_any ⟨1,st,ep,mv,k.vr,k.dm,0,0,Be.textB k.q,[]⟩ none 0 0 [] wc hok hpt rfl ((HT.out.on HX.out.bel).up HX.out.bel.size)
  have HTX:=Lib.hid htx
  clear htx hpt hok
  go_wp2_with fail
  refine HTX.out.mono ?_
  rintro e w5 ⟨rfl,hb5⟩
  obtain ⟨bs,hbs⟩ : ∃ bs,recB ⟨1,st,ep,mv,k.vr,k.dm,0,0,Be.textB k.q,[]⟩ = bs:=⟨_,rfl⟩
  rw [hbs]
  have HBS:=Lib.hid hbs
  obtain ⟨V,hV⟩ : ∃ V,(w5.alloc (.cells #[.string ⟨bs.toArray⟩] 9)).alloc (.cells #[.slice (some ⟨w5.heap.size,0,none⟩) 1 1] 108) = V:=⟨_,rfl⟩
  have hown : V.ownsRow w.heap.size 9 1 (.slice (some ⟨w5.heap.size,0,none⟩) 1 1) 1 (strL [bs]):=by
   rw [<- hV]
   exact (Be.own_lit w5 9 [.string ⟨bs.toArray⟩] 1 1 rfl (by unfold maxLen;omega) _ (Nat.le_trans HX.out.bel.size hb5.size)).alloc _
  have hbV : Below w5.heap.size w5 V:=by rw [<- hV];exact ((Below.refl _ _).alloc (Nat.le_refl _) _).alloc (by simp) _
  have hrV : Row V (w5.heap.size + 1) 108 [.slice (some ⟨w5.heap.size,0,none⟩) 1 1]:=by
   rw [<- hV]
   have:=Row.new (w5.alloc (.cells #[.string ⟨bs.toArray⟩] 9)) 108 [.slice (some ⟨w5.heap.size,0,none⟩) 1 1]
   simpa using this
  have hkV:=(HX.out.kept.below hb5).below hbV
  have c5:=hkV.c5
  have glV:=hkV.gl
  rw [<- hV] at c5 glV
  have hpts:=t_pts hkV.tree
  rw [hT0] at hpts
  have HPT:=Lib.hid hpts
  have HOW:=Lib.hid hown
  have HRV:=Lib.hid hrV
  have HVl:=Lib.hid hV
  have HBV:=Lib.hid (show Below w.heap.size w V from (HX.out.bel.trans (hb5.mono HX.out.bel.size)).trans (hbV.mono (Nat.le_trans HX.out.bel.size hb5.size)))
  clear hV hown hbV hrV hkV hpts hbs hb5 x0 x1 x2 x3 x4 x5 x6 x7 x8 x9
  go_wp2_with fail
  rw [HVl.out]
  refine HPT.out.mono ?_
  rintro e w8 ⟨A8,n8,c8,l8,rfl,hP8,hn8,hl8,hb8⟩
  obtain rfl : l8 = []:=by simpa using hl8
  obtain rfl : n8 = 0:=hP8.len
  have HCH:=Lib.hid (chunk_any A8 0 c8 w8)
  have HB8:=Lib.hid hb8
  clear hP8 hn8 hl8 hb8
  go_wp2_with fail
  refine HCH.out.mono ?_
  rintro e w9 ⟨rfl,rfl⟩
  go_wp2_with fail
  obtain ⟨W9,hW9⟩ : ∃ W9,(w8.alloc (.cells #[.slice A8 0 c8] 38)).alloc (.cells #[.int .i64 128] 3) = W9:=⟨_,rfl⟩
  have hc9 : W9.cell? ⟨w8.heap.size,0,none⟩ = some (.slice A8 0 c8):=by
   rw [<- hW9]
   exact ((Row.new w8 38 [.slice A8 0 c8]).keep (heap_alloc_lt _ _ (by simp))).cell (j:=0) rfl
  have hl9 : w8.heap.size < W9.heap.size:=by rw [<- hW9];simp;omega
  have hb9 : Below w8.heap.size w8 W9:=by rw [<- hW9];exact ((Below.refl _ _).alloc (Nat.le_refl _) _).alloc (by simp) _
  rw [hW9]
  refine (wpIn_wide (n:=8)).1 ?_
  refine wpIn_rangeFunc_ownH (α:=Nat) (F:=Fence.wide) rfl (by decide) (gf:=160) (lb:=#[.pointer (some ⟨w8.heap.size,0,none⟩),.pointer (some ⟨w8.heap.size + 1,0,none⟩)]) rfl trivial (enters_of Tryz.func160 (by kernel_rfl) rfl)
   (encs:=fun _=>#[.slice none 0 0]) (Kp:=Below W9.heap.size) (S:=fun ys=>ys = []) (Sp:=fun _=>False) (N:=0) (w0:=W9)
   (fun l J Jx W hW hJ hJx hY h0=>(chunkC_nil Fence.wide _ trivial rfl l w8.heap.size (w8.heap.size + 1) A8 c8 J W ((hW.cell (p:=⟨w8.heap.size,0,none⟩) hl9).trans hc9) h0).mono fun e W' hp=>⟨hp.1,.inl ⟨[],rfl,hp.2⟩⟩)
   belowK_t (belowK_b (Nat.le_refl _)) (Below.refl _ _) (fun _=>rfl) (fun _ W=>Below W9.heap.size W9 W) (fun _ _ _=>False) (ownFrom_below (Nat.le_refl _) (Nat.le_refl _)) (fun _ _ _ _ _ hs _ _=>hs) (Below.refl _ _) (fun _ _ _=>True) (fun _ _ _ _ _ _ _ _ _=>trivial) ?assign ?body ?done ?stop
  case assign =>
   intro l pre x W K hi hK
   gi_wp2
   exact hK _ _ (KeepsFrom.refl _ _) (Below.refl _ _) hi trivial
  case body=>exact fun l pre x a' W _ _ _ _ hl=>absurd hl (Nat.not_lt_zero _)
  case done =>
   rintro D ys W hD rfl hB hK
   have hbW : Below w8.heap.size w8 W:=hb9.trans (hB.mono hb9.size)
   have hrW:=(HRV.out.keep (HB8.out.block _ HRV.out.lt)).keep (hbW.block _ (Nat.lt_of_lt_of_le HRV.out.lt HB8.out.size))
   have cB : W.cell? ⟨w5.heap.size + 1,0,none⟩ = some (.slice (some ⟨w5.heap.size,0,none⟩) 1 1):=hrW.cell rfl
   have HK:=Lib.hid hK
   have HBW:=Lib.hid hbW
   have HB9:=Lib.hid hB
   have HOW2:=Lib.hid (keep_none (keep_none HOW.out HB8.out) hbW)
   clear hK hbW hB hrW
   go_wp2_with fail
   refine ⟨by simp,.inl ⟨_,_,rfl,run_takeDeferred HK.out,?_⟩⟩
   refine ⟨_,results_tmp rfl _ _ _,_,1,1,rfl,rfl,?_,?_⟩
   ·have:=ownsRow_putObj HOW2.out (.deferred none) HK.out rfl
    rw [<- HBS.out] at this
    exact this
   ·have h1 : Below w.heap.size w W:=(HBV.out.trans (HB8.out.mono HBV.out.size)).trans (HBW.out.mono (Nat.le_trans HBV.out.size HB8.out.size))
    exact h1.trans ((belowK_b (n₀:=W9.heap.size) (w:=W9) (Nat.le_refl _) W D _ _ hD HK.out rfl rfl).mono (Nat.le_trans (Nat.le_trans HBV.out.size HB8.out.size) hb9.size))
  case stop =>
   rintro D c pre W _ h _ _
   exact h.elim
end
end
section
open Go Go.RowKit
def shc (s lp g : Nat) : List Value:=[.pointer (some ⟨s,0,none⟩),.pointer (some ⟨lp,0,none⟩),.pointer (some ⟨g,0,none⟩)]
structure ShB (w : World) (B : Nat) (Fd Gd : Nat -> Prop) (s d lp g N tn st : Nat) (su : List ByteArray) (R : List RK) (l : List (Nat × ByteArray)) (sr : Nat) : Prop where
 log : LogF w B Fd Gd lp d N tn st (R.map RK.bytes) sr su l
 row : Row w s 75 (shc s lp g)
 a2 : ¬ Un Fd Gd s
 sB : B <= s
 tab : Tabs w B
def Zb (Fd Gd : Nat -> Prop) (s : Nat) : Nat -> Prop:=fun b=>Un Fd Gd b \/ b = s
section
variable {w w' : World} {B : Nat} {Fd Gd Fd' Gd' : Nat -> Prop} {s d lp g N tn st tn' st' : Nat} {su su' : List ByteArray} {R R' : List RK} {l l' : List (Nat × ByteArray)} {sr sr' : Nat}
theorem ShB.lt (h : ShB w B Fd Gd s d lp g N tn st su R l sr) : ∀ b,Zb Fd Gd s b -> b < w.heap.size:=fun b hb=>by
 rcases hb with hb | rfl
 ·exact h.log.lt b hb
 ·exact h.row.lt
theorem ShB.below (h : ShB w B Fd Gd s d lp g N tn st su R l sr) (hb : Below w.heap.size w w') : ShB w' B Fd Gd s d lp g N tn st su R l sr :=
 ⟨h.log.below hb,h.row.keep (hb.block _ h.row.lt),h.a2,h.sB,h.tab.on (hb.mono h.log.tab.le)⟩
theorem ShB.keep (h : ShB w B Fd Gd s d lp g N tn st su R l sr) (hk : ∀ b,Zb Fd Gd s b -> w'.heap[b]? = w.heap[b]?) (hs : w.heap.size <= w'.heap.size) (hb : Below B w w') : ShB w' B Fd Gd s d lp g N tn st su R l sr :=
 ⟨h.log.keep (fun b hF=>hk b (.inl hF)) hs hb,h.row.keep (hk s (.inr rfl)),h.a2,h.sB,h.tab.on hb⟩
theorem ShB.atLog (h : ShB w B Fd Gd s d lp g N tn st su R l sr) (hl : LogF w' B Fd' Gd' lp d N tn' st' (R'.map RK.bytes) sr' su' l') (T : Turn (Un Fd Gd) w (Un Fd' Gd') w') : ShB w' B Fd' Gd' s d lp g N tn' st' su' R' l' sr' /\ Turn (Zb Fd Gd s) w (Zb Fd' Gd' s) w':=by
 have hsl:=h.row.lt
 refine ⟨⟨hl,h.row.keep (T.block s hsl h.a2),fun hF=>?_,h.sB,h.tab.on (T.down h.log.far h.log.tab.le)⟩,⟨T.os,T.tape,T.output,T.size,fun b hb hZ=>T.block b hb fun hF=>hZ (.inl hF),fun b hb=>?_⟩⟩
 ·rcases T.foot s hF with h1 | h1
  ·exact h.a2 h1
  ·omega
 ·rcases hb with hb | hb
  ·exact (T.foot b hb).imp .inl id
  ·exact .inl (.inr hb)
theorem ShB.far (h : ShB w B Fd Gd s d lp g N tn st su R l sr) : ∀ b,Zb Fd Gd s b -> B <= b:=fun b hb=>by
 rcases hb with hb | rfl
 ·exact h.log.far b hb
 ·exact h.sB
theorem ShB.setNow {g' : Nat} (h : ShB w B Fd Gd s d lp g N tn st su R l sr) : ShB (w.setCell ⟨s,2,none⟩ (.pointer (some ⟨g',0,none⟩))) B Fd Gd s d lp g' N tn st su R l sr /\ Turn (Zb Fd Gd s) w (Zb Fd Gd s) (w.setCell ⟨s,2,none⟩ (.pointer (some ⟨g',0,none⟩))):=by
 have hT:=turn_one s w 2 (.pointer (some ⟨g',0,none⟩))
 have hb : Below B w (w.setCell ⟨s,2,none⟩ (.pointer (some ⟨g',0,none⟩))):=below_setCell (Below.refl _ _) h.sB _
 refine ⟨⟨h.log.keep (fun b hF=>hT.block b (h.log.lt b hF) fun e=>h.a2 (e ▸ hF)) hT.size hb,h.row.set 2 (.pointer (some ⟨g',0,none⟩)),h.a2,h.sB,h.tab.on hb⟩,⟨hT.os,hT.tape,hT.output,hT.size,fun b hb hZ=>hT.block b hb fun e=>hZ (.inr e),fun b hb=>.inl hb⟩⟩
end
section
variable {w w' : World} {F Ft : Nat -> Prop} {g t p : Nat} {k : KS}
theorem records_nil (h : KeptR w F Ft g t p k) (hg : k.Good) (hT0 : k.T = []) (hT : Be.Tabs w w.heap.size) : Calls Tryz.prog 87 #[.pointer (some ⟨g,0,none⟩)] w (StandPost [wholeK k k.st k.ep k.mv] w):=by
 have c1:=h.c1
 have c2:=h.c2
 have c3:=h.c3
 have hgl:=h.gl
 have HS:=Lib.hid (show Calls Tryz.prog 77 #[.pointer (some ⟨g,0,none⟩),.int .i64 k.st,.int .i64 k.ep,.int .i64 k.mv] w.drew (StandPost [wholeK k k.st k.ep k.mv] w) from by
  have:=standing_nil (h.drewN 1) hg hT0 k.st k.ep k.mv hg.st hg.ep hg.mv (hT.on ((Below.refl _ _).drew))
  refine this.mono ?_
  rintro e w' ⟨A,n,c,rfl,hn,ho,hb⟩
  exact ⟨A,n,c,rfl,hn,ho,((Below.refl _ _).drew).trans hb⟩)
 have HA:=Lib.hid (show ∀ w2 e,StandPost [wholeK k k.st k.ep k.mv] w e w2 -> w2.cell? ⟨g,1,none⟩ = some (.int .i64 k.st) /\ w2.cell? ⟨g,2,none⟩ = some (.int .i64 k.ep) /\ w2.cell? ⟨g,3,none⟩ = some (.int .i64 k.mv) from fun w2 e ⟨_,_,_,_,_,_,hb⟩=>⟨(h.below hb).c1,(h.below hb).c2,(h.below hb).c3⟩)
 clear h hT
 go_enter Tryz.func87,Tryz.ntmps87
 go_wp2_with fail
 go_region_held3 (fun w'=>w'.cell? ⟨g,1,none⟩ = some (.int .i64 k.st) /\ w'.cell? ⟨g,2,none⟩ = some (.int .i64 k.ep) /\ w'.cell? ⟨g,3,none⟩ = some (.int .i64 k.mv))
  (first | with_reducible exact ⟨c1,c2,c3⟩ | with_reducible exact HE.out | go_keep)
  ((go_at_call 77;with_reducible refine HS.out.mono ?_;intro e w2 hpost;have HE:=Lib.hid (HA.out w2 e hpost);have HP:=Lib.hid hpost;unfold StandPost at hpost;obtain ⟨A2,n2,c2',rfl,hpost⟩:=hpost;clear hpost))
 go_wp2_with fail
 go_ret
 exact HP.out
end
end
section
open Go Go.RowKit
def RecsSay (w : World) (F Ft : Nat -> Prop) (g t p : Nat) (k : KS) (rs : List RK) : Prop:=∀ w',Below w.heap.size w w' -> Calls Tryz.prog 87 #[.pointer (some ⟨g,0,none⟩)] w' (StandPost rs w')
def BeginPost (B s d lp g N tn : Nat) (Z : Nat -> Prop) (rs : List RK) (w : World) (e : Ending) (w' : World) : Prop:=e = .returned (.int .i64 0) /\ ∃ Fd Gd st su,ShB w' B Fd Gd s d lp g N (tn + 1) st su rs [] rs.length /\ Turn Z w (Zb Fd Gd s) w'
def AnewP (B : Nat) (Fd Gd : Nat -> Prop) (lp d N tn : Nat) (rs : List RK) (w2 w3 : World) : Prop:=∃ F' G' st' su',LogF w3 B F' G' lp d N (tn + 1) st' (rs.map RK.bytes) (rs.map RK.bytes).length su' [] /\ Turn (Un Fd Gd) w2 (Un F' G') w3
section
variable {w w' : World} {B : Nat} {Fd Gd : Nat -> Prop} {s d lp g g0 N tn st : Nat} {su : List ByteArray} {R : List RK} {l : List (Nat × ByteArray)} {sr : Nat} {F Ft : Nat -> Prop} {t p : Nat} {k : KS}
theorem begin_ok (h : ShB w B Fd Gd s d lp g0 N tn st su R l sr) (hl : l.length <= 900000) (ht : tn + 1 <= 1000000) (rs : List RK) (hsm : ∀ r ∈ rs,r.bytes.length <= 32768) (hfit : (encs (rs.map RK.bytes)).length <= 128 * hB N (tn + 1)) (hrs : RecsSay w F Ft g t p k rs) :
  Calls Tryz.prog 71 #[.pointer (some ⟨s,0,none⟩),.pointer (some ⟨g,0,none⟩)] w (BeginPost B s d lp g N tn (Zb Fd Gd s) rs w):=by
 have c1 : w.cell? ⟨s,1,none⟩ = some (.pointer (some ⟨lp,0,none⟩)):=h.row.cell rfl
 have hsl:=h.row.lt
 have HR:=Lib.hid (show Calls Tryz.prog 87 #[.pointer (some ⟨g,0,none⟩)] w.drew (StandPost rs w.drew) from hrs w.drew ((Below.refl _ _).drew))
 have HA:=Lib.hid (show ∀ w2 A n c,n = rs.length -> w2.ownsRow w.drew.heap.size 9 1 (.slice A n c) n (strL (rs.map RK.bytes)) -> Below w.drew.heap.size w.drew w2 -> w2.cell? ⟨s,1,none⟩ = some (.pointer (some ⟨lp,0,none⟩)) /\ ShB w2 B Fd Gd s d lp g0 N tn st su R l sr /\ Calls Tryz.prog 116 #[.pointer (some ⟨lp,0,none⟩),.slice A n c] w2 (fun e w3=>e = .returned (.int .i64 0) /\ AnewP B Fd Gd lp d N tn rs w2 w3) from fun w2 A n c hn ho hb0=>by
  have hb : Below w.heap.size w w2:=((Below.refl _ _).drew).trans hb0
  have ho : w2.ownsRow w.heap.size 9 1 (.slice A n c) n (strL (rs.map RK.bytes)):=ho
  have h2:=h.below hb
  have hcnt:=encs_count (rs.map RK.bytes)
  have hst:=h2.log.log.stB
  have hhb:=hB_half N (tn + 1)
  have hN:=h2.log.log.ok.hN
  rw [List.length_map] at hcnt
  refine ⟨h2.row.cell rfl,h2,logt_anew h2.log ht (rs.map RK.bytes) A n c (Reads.of_own ho) (fun ad e h0 hF=>?_) (by unfold maxLen;omega) (fun r hr=>?_) hfit hl h2.tab⟩
  ·obtain ⟨g1,cap,hv,hb1,_⟩:=ho.form h0
   have hA : A = some ⟨g1,0,none⟩:=by injection hv
   have he : ad = ⟨g1,0,none⟩:=Option.some.inj (e.symm.trans hA)
   subst he
   have:=h.log.lt _ hF
   simp only at this
   omega
  ·obtain ⟨x,hx,rfl⟩:=List.mem_map.1 hr
   exact hsm x hx)
 have HQ:=Lib.hid (show ∀ w2 w3,ShB w2 B Fd Gd s d lp g0 N tn st su R l sr -> AnewP B Fd Gd lp d N tn rs w2 w3 -> w3.cell? ⟨s,1,none⟩ = some (.pointer (some ⟨lp,0,none⟩)) /\ s < w3.heap.size /\ w3.cell? ⟨s,2,none⟩ = some (.pointer (some ⟨g0,0,none⟩)) /\ w3.frozen? ⟨s,2,none⟩ = false from fun w2 w3 h2 ⟨F',G',st',su',hl,hT⟩=>by
  have h3:=(h2.atLog hl hT).1
  exact ⟨h3.row.cell rfl,h3.row.lt,h3.row.cell rfl,h3.row.frozen 2⟩)
 have H:=Lib.hid h
 clear h hfit hsm hrs
 go_enter Tryz.func71,Tryz.ntmps71
 go_wp2_with fail
 go_region_held3 (fun w'=>w'.cell? ⟨s,1,none⟩ = some (.pointer (some ⟨lp,0,none⟩)))
  (first | with_reducible exact c1 | with_reducible exact HE.out.1 | with_reducible exact HZ.out.1 | go_keep)
  (first
   | (go_at_call 87;with_reducible refine HR.out.mono ?_;intro e w2 hpost;unfold StandPost at hpost;obtain ⟨A2,n2,c2,rfl,hn2,ho2,hb2⟩:=hpost;have HE:=Lib.hid (HA.out w2 A2 n2 c2 hn2 ho2 hb2);have HB2:=Lib.hid hb2;clear hn2 ho2 hb2)
   | (go_at_call 116;with_reducible refine HE.out.2.2.mono ?_;intro e w3 hpost;obtain ⟨rfl,hpost⟩:=hpost;have HP:=Lib.hid hpost;have HZ:=Lib.hid (HQ.out w2 w3 HE.out.2.1 hpost);clear hpost))
 have hsl3:=HZ.out.2.1
 have s2:=HZ.out.2.2.1
 have z2:=HZ.out.2.2.2
 go_wp2_with fail
 go_ret
 obtain ⟨F',G',st',su',hl3,hT3⟩:=HP.out
 obtain ⟨h3,hT3'⟩:=HE.out.2.1.atLog hl3 hT3
 obtain ⟨h4,hT4⟩:=h3.setNow (g':=g)
 rw [List.length_map] at h4
 exact ⟨rfl,F',G',st',su',h4,((((Turn.drewN _ w 1).trans (Turn.below _ HB2.out)).trans hT3').trans hT4)⟩
end
end
section
open Go Go.RowKit
structure ShR (w : World) (B : Nat) (Fd Gd Fk Ft : Nat -> Prop) (s d lp g t p N tn st : Nat) (su : List ByteArray) (R : List RK) (k : KS) : Prop where
 b : ShB w B Fd Gd s d lp g N tn st su R [] R.length
 kept : KeptR w Fk Ft g t p k
 apart : ∀ x,Fk x -> ¬ Zb Fd Gd s x
 kfar : ∀ x,Fk x -> B <= x
 good : k.Good
 may : MayL (ks0 k.dm) R
 is : doL (ks0 k.dm) R = k
def Za (Fd Gd Fk : Nat -> Prop) (s : Nat) : Nat -> Prop:=fun b=>Zb Fd Gd s b \/ Fk b
def ShW (w : World) (B : Nat) (Z : Nat -> Prop) (s d N tn : Nat) (R : List RK) (k : KS) : Prop:=∃ Fd Gd Fk Ft lp g t p st su,ShR w B Fd Gd Fk Ft s d lp g t p N tn st su R k /\ Z = Za Fd Gd Fk s
section
variable {w w' : World} {B : Nat} {Fd Gd Fk Ft : Nat -> Prop} {s d lp g t p N tn st : Nat} {su : List ByteArray} {R : List RK} {k : KS} {Z : Nat -> Prop}
theorem ShR.below (h : ShR w B Fd Gd Fk Ft s d lp g t p N tn st su R k) (hb : Below w.heap.size w w') : ShR w' B Fd Gd Fk Ft s d lp g t p N tn st su R k:={ h with b:=h.b.below hb,kept:=h.kept.below hb }
theorem ShR.drewN (h : ShR w B Fd Gd Fk Ft s d lp g t p N tn st su R k) (q : Nat) : ShR (w.drewN q) B Fd Gd Fk Ft s d lp g t p N tn st su R k:=h.below (below_drewN (Below.refl _ _) q)
theorem ShR.keep (h : ShR w B Fd Gd Fk Ft s d lp g t p N tn st su R k) (hk : ∀ b,Za Fd Gd Fk s b -> w'.heap[b]? = w.heap[b]?) (hs : w.heap.size <= w'.heap.size) (hb : Below B w w') : ShR w' B Fd Gd Fk Ft s d lp g t p N tn st su R k :=
 {h with b:=h.b.keep (fun b hb=>hk b (.inl hb)) hs hb,kept:=h.kept.keep (fun b hb=>hk b (.inr hb)) hs }
theorem ShW.below (h : ShW w B Z s d N tn R k) (hb : Below w.heap.size w w') : ShW w' B Z s d N tn R k:=by
 obtain ⟨Fd,Gd,Fk,Ft,lp,g,t,p,st,su,h,e⟩:=h
 exact ⟨Fd,Gd,Fk,Ft,lp,g,t,p,st,su,h.below hb,e⟩
theorem ShW.drewN (h : ShW w B Z s d N tn R k) (q : Nat) : ShW (w.drewN q) B Z s d N tn R k:=h.below (below_drewN (Below.refl _ _) q)
theorem ShW.keep (h : ShW w B Z s d N tn R k) (hk : ∀ b,Z b -> w'.heap[b]? = w.heap[b]?) (hs : w.heap.size <= w'.heap.size) (hb : Below B w w') : ShW w' B Z s d N tn R k:=by
 obtain ⟨Fd,Gd,Fk,Ft,lp,g,t,p,st,su,h,rfl⟩:=h
 exact ⟨Fd,Gd,Fk,Ft,lp,g,t,p,st,su,h.keep hk hs hb,rfl⟩
theorem ShW.lt (h : ShW w B Z s d N tn R k) : ∀ b,Z b -> b < w.heap.size:=by
 obtain ⟨Fd,Gd,Fk,Ft,lp,g,t,p,st,su,h,rfl⟩:=h
 intro b hb
 rcases hb with hb | hb
 ·exact h.b.lt b hb
 ·exact h.kept.lt b hb
theorem ShW.far (h : ShW w B Z s d N tn R k) : ∀ b,Z b -> B <= b:=by
 obtain ⟨Fd,Gd,Fk,Ft,lp,g,t,p,st,su,h,rfl⟩:=h
 intro b hb
 rcases hb with hb | hb
 ·exact h.b.far b hb
 ·exact h.kfar b hb
theorem ShW.tabs (h : ShW w B Z s d N tn R k) : Tab w B /\ Tabs w B:=by
 obtain ⟨Fd,Gd,Fk,Ft,lp,g,t,p,st,su,h,rfl⟩:=h
 exact ⟨h.b.log.tab,h.b.tab⟩
theorem ShW.good (h : ShW w B Z s d N tn R k) : k.Good:=by
 obtain ⟨Fd,Gd,Fk,Ft,lp,g,t,p,st,su,h,rfl⟩:=h
 exact h.good
theorem ShW.turn {G G' : Nat -> Prop} (h : ShW w B Z s d N tn R k) (T : Turn G w G' w') (hd : ∀ b,Z b -> ¬ G b) (hG : ∀ b,G b -> B <= b) : ShW w' B Z s d N tn R k :=
 h.keep (fun b hb=>T.block b (h.lt b hb) (hd b hb)) T.size (T.down hG h.tabs.1.le)
theorem za_new {Fd Gd Fd' Gd' Fk Fk' : Nat -> Prop} {s : Nat} (T : Turn (Zb Fd Gd s) w (Zb Fd' Gd' s) w') (hF : ∀ b,Fk' b -> w.heap.size <= b) : Turn (Za Fd Gd Fk s) w (Za Fd' Gd' Fk' s) w' :=
 ⟨T.os,T.tape,T.output,T.size,fun b hb hZ=>T.block b hb fun h=>hZ (.inl h),fun b hb=>by
  rcases hb with hb | hb
  ·exact (T.foot b hb).imp .inl id
  ·exact .inr (hF b hb)⟩
def emptyK (dim : Nat) (st ep mv : Int) : KS:=standK (ks0 dim) st ep mv
def emptyR (dim : Nat) (st ep mv : Int) : RK:=.whole st ep mv 0 dim Be.q0
def EmptyPost (B s d N tn : Nat) (Z : Nat -> Prop) (dim : Nat) (st ep mv : Int) (w : World) (e : Ending) (w' : World) : Prop:=e = .returned (.int .i64 0) /\ ∃ Z',ShW w' B Z' s d N (tn + 1) [emptyR dim st ep mv] (emptyK dim st ep mv) /\ Turn Z w Z' w'
theorem empty_ok (h : ShR w B Fd Gd Fk Ft s d lp g t p N tn st su R k) (ht : tn + 1 <= 1000000) (stt ep mv : Int) (h1 : Be.S64 stt) (h2 : Be.S64 ep) (h3 : Be.S64 mv) (hfit : (encs [(emptyR k.dm stt ep mv).bytes]).length <= 128 * hB N (tn + 1)) :
  Calls Tryz.prog 46 #[.pointer (some ⟨s,0,none⟩),.int .i64 stt,.int .i64 ep,.int .i64 mv] w (EmptyPost B s d N tn (Za Fd Gd Fk s) k.dm stt ep mv w):=by
 have s2 : w.cell? ⟨s,2,none⟩ = some (.pointer (some ⟨g,0,none⟩)):=h.b.row.cell rfl
 have hsl:=h.b.row.lt
 have c0:=h.kept.c0
 have hgl:=h.kept.gl
 have HK:=Lib.hid (keptOf_any k.dm h.good.d1 h.good.d2 [] trivial (fun r hr=>by cases hr) (fun r hr=>by cases hr) none 0 0 w Reads.none_ (by unfold maxLen;omega))
 have H:=Lib.hid h
 clear h
 go_enter Tryz.func46,Tryz.ntmps46
 go_wp2_with fail
 refine HK.out.mono ?_
 rintro e w2 ⟨g2,t2,p2,F2,Ft2,rfl,hk2,hF2,hb2⟩
 have z1:=hk2.z 1
 have z2:=hk2.z 2
 have z3:=hk2.z 3
 have a1:=hk2.c1
 have a2:=hk2.c2
 have a3:=hk2.c3
 have gl2:=hk2.gl
 have HK2:=Lib.hid hk2
 have HF2:=Lib.hid hF2
 have HB2:=Lib.hid hb2
 clear hk2 hF2 hb2
 go_wp2_with fail
 obtain ⟨V,hV⟩ : ∃ V,(((w2.setCell ⟨g2,1,none⟩ (.int .i64 stt)).setCell ⟨g2,2,none⟩ (.int .i64 ep)).setCell ⟨g2,3,none⟩ (.int .i64 mv)) = V:=⟨_,rfl⟩
 obtain ⟨hkV,hTV⟩:=HK2.out.atRow (k':=emptyK k.dm stt ep mv) (w':=V) (by
  rw [<- hV]
  exact (turn_one g2 w2 1 _).trans ((turn_one g2 _ 2 _).trans (turn_one g2 _ 3 _))) (by
  rw [<- hV]
  exact ((HK2.out.row.set 1 (.int .i64 stt)).set 2 (.int .i64 ep)).set 3 (.int .i64 mv)) rfl rfl rfl
 have hbV : Below w.heap.size w V:=HB2.out.trans (hTV.down HF2.out HB2.out.size)
 have hg0:=ks0_good k.dm H.out.good.d1 H.out.good.d2
 have hgd : (emptyK k.dm stt ep mv).Good:=hg0.stand h1 h2 h3
 have hmay : (emptyR k.dm stt ep mv).May (ks0 k.dm):=⟨h1,h2,h3,⟨by omega,by omega⟩,H.out.good.d2,Be.okq0⟩
 have hbT : Be.Tabs w B:=H.out.b.tab
 have hrs : RecsSay V F2 Ft2 g2 t2 p2 (emptyK k.dm stt ep mv) [emptyR k.dm stt ep mv]:=fun w' hb=>by
  have hb' : Below B w w':=(hbV.trans (hb.mono hbV.size)).mono H.out.b.log.tab.le
  have hh:=records_nil (hkV.below hb) hgd rfl ((Be.Tabs.on hbT hb').up (Nat.le_trans H.out.b.log.tab.le (Nat.le_trans hbV.size hb.size)))
  have e : wholeK (emptyK k.dm stt ep mv) (emptyK k.dm stt ep mv).st (emptyK k.dm stt ep mv).ep (emptyK k.dm stt ep mv).mv = emptyR k.dm stt ep mv:=rfl
  rw [e] at hh
  exact hh
 clear c0 s2 a1 a2 a3 z1 z2 z3
 have hbg:=begin_ok (H.out.b.below hbV) (by simp) ht [emptyR k.dm stt ep mv] (fun r hr=>by
  rw [List.mem_singleton] at hr
  subst hr
  exact recB_len (RK.May.ok hmay)) hfit hrs
 rw [hV]
 refine hbg.mono ?_
 rintro e w4 ⟨rfl,Fd',Gd',st',su',hb4,hT4⟩
 have hk4:=hkV.turn hT4 (fun b hb hZ=>by have:=H.out.b.lt b hZ;have:=HF2.out b hb;omega)
 go_wp2_with fail
 go_ret
 refine ⟨rfl,_,⟨Fd',Gd',F2,Ft2,lp,g2,t2,p2,st',su',⟨hb4,hk4,fun x hx hZ=>?_,fun x hx=>Nat.le_trans H.out.b.log.tab.le (HF2.out x hx),hgd,⟨hmay,trivial⟩,rfl⟩,rfl⟩,?_⟩
 ·rcases hT4.foot x hZ with h | h
  ·have:=H.out.b.lt x h
   have:=HF2.out x hx
   omega
  ·have:=hkV.lt x hx
   omega
 ·exact za_new ((Turn.below _ hbV).trans hT4) HF2.out
end
end
section
open Go Go.RowKit
theorem sh_row : (Tryz.prog.info? 75).map (fun i=>i.size) = some 3:=by kernel_rfl
theorem seql_self (p : Nat) (w : World) : (binOp .eql 37 (.pointer (some ⟨p,0,none⟩)) (.pointer (some ⟨p,0,none⟩))).run Tryz.prog w = .ok (.bool true) w:=by
 obtain ⟨i,hi,_⟩:=Option.map_eq_some_iff.1 sh_row
 exact run_eql_ptr_same w _ Tryz.underlying37 hi
section
variable {w w' : World} {B : Nat} {Fd Gd Fk Ft : Nat -> Prop} {s d lp g t p N tn st : Nat} {su : List ByteArray} {R : List RK} {k : KS} {Z : Nat -> Prop}
theorem sgiven_any (h : ShR w B Fd Gd Fk Ft s d lp g t p N tn st su R k) : Calls Tryz.prog 43 #[.pointer (some ⟨s,0,none⟩)] w fun e w'=>e = .returned (.bool true) /\ w = w':=by
 have hc : w.cell? ⟨s,0,none⟩ = some (.pointer (some ⟨s,0,none⟩)):=h.b.row.cell rfl
 have hl:=h.b.row.lt
 have he:=seql_self s w
 clear h
 go_enter Tryz.func43,Tryz.ntmps43
 go_wp2
 go_ret
 exact ⟨rfl,rfl⟩
def mvB (n : Int) : Bool:=decide (1 <= n /\ n <= 1099511627776)
theorem isNum_any (n : Int) (w : World) : Calls Tryz.prog 44 #[.int .i64 n] w fun e w'=>e = .returned (.bool (mvB n)) /\ w = w':=by
 unfold mvB
 by_cases h1 : 1 <= n
 ·by_cases h2 : n <= 1099511627776
  ·rw [decide_eq_true ⟨h1,h2⟩]
   go_enter Tryz.func44,Tryz.ntmps44
   go_wp2
   go_ret
   exact ⟨rfl,rfl⟩
  ·rw [decide_eq_false (fun h=>h2 h.2)]
   go_enter Tryz.func44,Tryz.ntmps44
   go_wp2
   go_ret
   exact ⟨rfl,rfl⟩
 ·rw [decide_eq_false (fun h=>h1 h.1)]
  go_enter Tryz.func44,Tryz.ntmps44
  go_wp2
  go_ret
  exact ⟨rfl,rfl⟩
theorem sis_any (h : ShR w B Fd Gd Fk Ft s d lp g t p N tn st su R k) (z : Int) : Calls Tryz.prog 45 #[.pointer (some ⟨s,0,none⟩),.int .i64 z] w fun e w'=>e = .returned (.bool (k.st == z)) /\ w = w':=by
 have s2 : w.cell? ⟨s,2,none⟩ = some (.pointer (some ⟨g,0,none⟩)):=h.b.row.cell rfl
 have hsl:=h.b.row.lt
 have c1:=h.kept.c1
 have hgl:=h.kept.gl
 clear h
 go_enter Tryz.func45,Tryz.ntmps45
 go_wp2
 go_ret
 exact ⟨rfl,rfl⟩
def standV (k : KS) : Int:=if k.st = 2 \/ k.st = 1 then k.vr else 0
theorem stands_any (h : ShR w B Fd Gd Fk Ft s d lp g t p N tn st su R k) : Calls Tryz.prog 17 #[.pointer (some ⟨s,0,none⟩)] w fun e w'=>e = .returned (.tuple #[.int .i64 k.st,.int .i64 k.ep,.int .i64 (standV k),.int .i64 k.mv]) /\ ∃ q,w' = w.drewN q:=by
 have s2 : w.cell? ⟨s,2,none⟩ = some (.pointer (some ⟨g,0,none⟩)):=h.b.row.cell rfl
 have hsl:=h.b.row.lt
 have c1:=h.kept.c1
 have c2:=h.kept.c2
 have c3:=h.kept.c3
 have c4:=h.kept.c4
 have hgl:=h.kept.gl
 have HG:=Lib.hid (sgiven_any h)
 have HS:=Lib.hid (fun z=>sis_any h z)
 clear h
 unfold standV
 by_cases h2 : k.st = 2
 ·rw [if_pos (.inl h2)]
  have e2 : (k.st == 2) = true:=by simp [h2]
  have HS2:=Lib.hid (HS.out 2)
  rw [e2] at HS2
  clear e2 h2
  go_enter Tryz.func17,Tryz.ntmps17
  go_wp2_with (first | (with_reducible refine HG.out.mono ?_;rintro e w1 ⟨rfl,rfl⟩) | (with_reducible refine HS2.out.mono ?_;rintro e w1 ⟨rfl,rfl⟩))
  go_quiet (fail)
  go_wp2_with fail
  refine bodyPost_ret (v:=.tuple #[.int .i64 k.st,.int .i64 k.ep,.int .i64 k.vr,.int .i64 k.mv]) (by simp [results,Tryz.results17,go_sem]) rfl ⟨rfl,_,rfl⟩
 ·by_cases h1 : k.st = 1
  ·rw [if_pos (.inr h1)]
   have e2 : (k.st == 2) = false:=by simp [h1]
   have e1 : (k.st == 1) = true:=by simp [h1]
   have HS2:=Lib.hid (HS.out 2)
   have HS1:=Lib.hid (HS.out 1)
   rw [e2] at HS2
   rw [e1] at HS1
   clear e2 h2 e1 h1
   go_enter Tryz.func17,Tryz.ntmps17
   go_wp2_with (first | (with_reducible refine HG.out.mono ?_;rintro e w1 ⟨rfl,rfl⟩) | (with_reducible refine HS2.out.mono ?_;rintro e w1 ⟨rfl,rfl⟩) | (with_reducible refine HS1.out.mono ?_;rintro e w1 ⟨rfl,rfl⟩))
   go_quiet (fail)
   go_wp2_with fail
   refine bodyPost_ret (v:=.tuple #[.int .i64 k.st,.int .i64 k.ep,.int .i64 k.vr,.int .i64 k.mv]) (by simp [results,Tryz.results17,go_sem]) rfl ⟨rfl,_,rfl⟩
  ·rw [if_neg (by omega)]
   have e2 : (k.st == 2) = false:=by simp [h2]
   have e1 : (k.st == 1) = false:=by simp [h1]
   have HS2:=Lib.hid (HS.out 2)
   have HS1:=Lib.hid (HS.out 1)
   rw [e2] at HS2
   rw [e1] at HS1
   clear e2 h2 e1 h1
   go_enter Tryz.func17,Tryz.ntmps17
   go_wp2_with (first | (with_reducible refine HG.out.mono ?_;rintro e w1 ⟨rfl,rfl⟩) | (with_reducible refine HS2.out.mono ?_;rintro e w1 ⟨rfl,rfl⟩) | (with_reducible refine HS1.out.mono ?_;rintro e w1 ⟨rfl,rfl⟩))
   go_quiet (fail)
   go_wp2_with fail
   refine bodyPost_ret (v:=.tuple #[.int .i64 k.st,.int .i64 k.ep,.int .i64 0,.int .i64 k.mv]) (by simp [results,Tryz.results17,go_sem]) rfl ⟨rfl,_,rfl⟩
theorem found_ok (h : ShR w B Fd Gd Fk Ft s d lp g t p N tn st su R k) (ht : tn + 1 <= 1000000) (ep : Int) (he : mvB ep = true) (h0 : k.st = 0) (hep : k.ep < ep) (hfit : (encs [(emptyR k.dm 2 ep k.mv).bytes]).length <= 128 * hB N (tn + 1)) :
  Calls Tryz.prog 15 #[.pointer (some ⟨s,0,none⟩),.int .i64 ep] w (EmptyPost B s d N tn (Za Fd Gd Fk s) k.dm 2 ep k.mv w):=by
 have s2 : w.cell? ⟨s,2,none⟩ = some (.pointer (some ⟨g,0,none⟩)):=h.b.row.cell rfl
 have hsl:=h.b.row.lt
 have c2:=h.kept.c2
 have c3:=h.kept.c3
 have hgl:=h.kept.gl
 have HG:=Lib.hid (sgiven_any h)
 have HN:=Lib.hid (isNum_any ep w)
 rw [he] at HN
 have HS:=Lib.hid (sis_any h 0)
 rw [show (k.st == 0) = true by simp [h0]] at HS
 have hs64 : Be.S64 ep:=by
  have:=of_decide_eq_true he
  exact ⟨by omega,by omega⟩
 have HE:=Lib.hid (empty_ok h ht 2 ep k.mv ⟨by decide,by decide⟩ hs64 h.good.mv hfit)
 have hnle : ¬ ep <= k.ep:=by omega
 clear h he h0 hep hfit hs64
 go_enter Tryz.func15,Tryz.ntmps15
 go_wp2_with (first | (with_reducible refine HG.out.mono ?_;rintro e w1 ⟨rfl,rfl⟩) | (with_reducible refine HN.out.mono ?_;rintro e w1 ⟨rfl,rfl⟩) | (with_reducible refine HS.out.mono ?_;rintro e w1 ⟨rfl,rfl⟩))
 refine HE.out.mono ?_
 rintro e w2 ⟨rfl,hp⟩
 go_wp2_with fail
 go_ret
 exact ⟨rfl,hp⟩
end
end
end Go.Proofs.YtegjjhjgfkcbhaaGreatDoor
