/- SKeep SPlace SChange SWrite SOpen. Conditions: as each part says. -/
import Derived.Test.YtegjjhjgfkcbhaaGreatDoorQ42
import Derived.Test.YtegjjhjgfkcbhaaGreatDoorQ30
set_option linter.unusedVariables false
set_option linter.unusedSimpArgs false
set_option maxRecDepth 100000
set_option maxHeartbeats 16000000
namespace Go.Proofs.YtegjjhjgfkcbhaaGreatDoor
section
open Go Go.RowKit
section
variable {w w' : World} {B : Nat} {Fd Gd Fd' Gd' Fk Ft : Nat -> Prop} {s d lp g t p N tn st : Nat} {su : List ByteArray} {R : List RK} {k : KS} {Z : Nat -> Prop}
theorem ShR.kept_log (h : ShR w B Fd Gd Fk Ft s d lp g t p N tn st su R k) (T : Turn (Zb Fd Gd s) w (Zb Fd' Gd' s) w') : KeptR w' Fk Ft g t p k /\ ∀ x,Fk x -> ¬ Zb Fd' Gd' s x:=by
 refine ⟨h.kept.turn T h.apart,fun x hx hZ=>?_⟩
 rcases T.foot x hZ with h1 | h1
 ·exact h.apart x hx h1
 ·have:=h.kept.lt x hx
  omega
theorem ShR.after {w2 w3 : World} {st' tn' : Nat} {su' : List ByteArray} {R' : List RK} {Fk' Ft' : Nat -> Prop} {p' : Nat} {k' : KS} (h : ShR w B Fd Gd Fk Ft s d lp g t p N tn st su R k)
  (hb : ShB w2 B Fd' Gd' s d lp g N tn' st' su' R' [] R'.length) (T : Turn (Zb Fd Gd s) w (Zb Fd' Gd' s) w2) (hk : KeptR w3 Fk' Ft' g t p' k') (TK : Turn Fk w2 Fk' w3) (hg : k'.Good) (hm : MayL (ks0 k'.dm) R') (he : doL (ks0 k'.dm) R' = k') :
  ShR w3 B Fd' Gd' Fk' Ft' s d lp g t p' N tn' st' su' R' k' /\ Turn (Za Fd Gd Fk s) w (Za Fd' Gd' Fk' s) w3:=by
 obtain ⟨hk2,hap⟩:=h.kept_log T
 have hB2:=hb.log.tab.le
 have hBK : Below B w2 w3:=TK.down h.kfar hB2
 refine ⟨⟨hb.keep (fun b hZ=>TK.block b (hb.lt b hZ) fun hF=>hap b hF hZ) TK.size hBK,hk,fun x hx hZ=>?_,fun x hx=>?_,hg,hm,he⟩,?_⟩
 ·rcases TK.foot x hx with h1 | h1
  ·exact hap x h1 hZ
  ·have:=hb.lt x hZ
   omega
 ·rcases TK.foot x hx with h1 | h1
  ·exact h.kfar x h1
  ·omega
 ·refine ⟨TK.os.trans T.os,TK.tape.trans T.tape,TK.output.trans T.output,Nat.le_trans T.size TK.size,fun b hb hZ=>(TK.block b (Nat.lt_of_lt_of_le hb T.size) fun hF=>hZ (.inr hF)).trans (T.block b hb fun hF=>hZ (.inl hF)),fun b hbz=>?_⟩
  rcases hbz with hbz | hbz
  ·exact (T.foot b hbz).imp .inl id
  ·exact (TK.foot b hbz).imp .inr (Nat.le_trans T.size)
def KeepPost (B s d N tn : Nat) (Z : Nat -> Prop) (R : List RK) (k : KS) (w : World) (e : Ending) (w' : World) : Prop:=e = .returned (.int .i64 0) /\ ∃ Z',ShW w' B Z' s d N tn R k /\ Turn Z w Z' w'
theorem keep_ok (h : ShR w B Fd Gd Fk Ft s d lp g t p N tn st su R k) (r : RK) (hnp : ∀ m,r ≠ .pts m) (hm : r.May k) (hg : (doK k r).Good) (hfit : (encs (R.map RK.bytes)).length + (r.bytes.length + 14) <= 128 * hB N tn)
  (A : Option Addr) (n c : Nat) (l : List Pt) (hP : Pts w w.heap.size A n l) (hl : l.map bareP = r.rc.ps) (ha : Away (Za Fd Gd Fk s) l A) :
  Calls Tryz.prog 52 #[.pointer (some ⟨s,0,none⟩),.agg #[.int .i64 r.rc.kd,.int .i64 r.rc.st,.int .i64 r.rc.ep,.int .i64 r.rc.mv,.int .i64 r.rc.vr,.int .i64 r.rc.dm,.int .i64 r.rc.cl,.int .i64 r.rc.sq,.string r.rc.tb,.slice A n c]] w (KeepPost B s d N tn (Za Fd Gd Fk s) (R ++ [r]) (doK k r) w):=by
 obtain ⟨W,hW⟩ : ∃ W,w.alloc (.cells #[.int .i64 r.rc.kd,.int .i64 r.rc.st,.int .i64 r.rc.ep,.int .i64 r.rc.mv,.int .i64 r.rc.vr,.int .i64 r.rc.dm,.int .i64 r.rc.cl,.int .i64 r.rc.sq,.string r.rc.tb,.slice A n c] 107) = W:=⟨_,rfl⟩
 have hbW : Below w.heap.size w W:=by rw [<- hW];exact (Below.refl _ _).alloc (Nat.le_refl _) _
 have hX : Row W w.heap.size 107 (rcl r.rc (.slice A n c)):=by rw [<- hW];exact rec_box w r.rc _
 have hok:=hm.ok
 obtain ⟨e0,e1,e2,e3,e4,e5,e6,e7,e8,e9⟩:=rec_cells hX
 have hxl:=hX.lt
 have hTx : Be.Tabs W W.heap.size:=(Be.Tabs.on h.b.tab (hbW.mono h.b.log.tab.le)).up (Nat.le_trans h.b.log.tab.le hbW.size)
 have HTX:=Lib.hid (rtext_any r.rc A n c l W hok ((hP.below hbW).more hbW.size) hl hTx)
 have H:=Lib.hid h
 have HX:=Lib.hid hX
 have HB:=Lib.hid hbW
 have HWl:=Lib.hid hW
 have HM:=Lib.hid hm
 have HG:=Lib.hid hg
 have HF:=Lib.hid hfit
 have HP:=Lib.hid hP
 have HLl:=Lib.hid hl
 have HA:=Lib.hid ha
 have HLEN:=Lib.hid (recB_len hok)
 clear h hX hbW hW hm hg hfit hP hl ha hok hTx
 go_enter Tryz.func52,Tryz.ntmps52
 go_wp2_with fail
 rw [HWl.out]
 go_wp2_with fail
 refine HTX.out.mono ?_
 rintro e w2 ⟨rfl,hb2⟩
 have hbw2 : Below w.heap.size w w2:=HB.out.trans (hb2.mono HB.out.size)
 have h2:=H.out.below hbw2
 have s1 : w2.cell? ⟨s,1,none⟩ = some (.pointer (some ⟨lp,0,none⟩)):=h2.b.row.cell rfl
 have hsl2:=h2.b.row.lt
 have hadd:=logt_add h2.b.log (recB r.rc) HLEN.out HF.out (by simp)
 have HAD:=Lib.hid hadd
 have H2:=Lib.hid h2
 have HBW2:=Lib.hid hbw2
 have HX2:=Lib.hid (HX.out.keep (hb2.block _ HX.out.lt))
 clear hadd h2 hbw2 hb2 e0 e1 e2 e3 e4 e5 e6 e7 e8 e9
 go_wp2_with fail
 refine HAD.out.mono ?_
 rintro e w3 ⟨rfl,F3,G3,l3,hlog3,hl3,hT3⟩
 have hR1 : R.map RK.bytes ++ [recB r.rc] = (R ++ [r]).map RK.bytes:=by simp [RK.bytes]
 rw [hR1] at hlog3
 obtain ⟨h3,hT3'⟩:=H2.out.b.atLog hlog3 hT3
 have s1' : w3.cell? ⟨s,1,none⟩ = some (.pointer (some ⟨lp,0,none⟩)):=h3.row.cell rfl
 have hsl3:=h3.row.lt
 have HFL:=Lib.hid (logt_flush h3.log (by simp at hl3;omega))
 have H3:=Lib.hid h3
 have HT3:=Lib.hid hT3'
 clear h3 hT3 hT3' hlog3 hR1 hl3 s1 hsl2
 go_wp2_with fail
 refine HFL.out.mono ?_
 rintro e w4 ⟨rfl,F4,G4,st4,su4,hlog4,hT4⟩
 rw [List.length_map] at hlog4
 obtain ⟨h4,hT4'⟩:=H3.out.atLog hlog4 hT4
 have hT24:=HT3.out.trans hT4'
 obtain ⟨hk4,hap4⟩:=H2.out.kept_log hT24
 have hZX : ¬ Zb Fd Gd s w.heap.size:=fun hZ=>by have:=H.out.b.lt _ hZ;omega
 have hX4:=HX2.out.keep (hT24.block _ HX2.out.lt hZX)
 have hP2:=(HP.out.below HBW2.out)
 have hP4 : Pts w4 w.heap.size A n l:=pts_turn hP2 HBW2.out.size hT24 ⟨fun ad e hZ=>HA.out.1 ad e (.inl hZ),fun q hq ad e hZ=>HA.out.2 q hq ad e (.inl hZ)⟩
 have hdo:=kdo_rk (hk4.drewN 1) A n c l r hnp HM.out (((hP4.more (Nat.le_trans HBW2.out.size hT24.size))).below (below_drewN (Below.refl _ w4) 1)) HLl.out ⟨fun ad e hF=>HA.out.1 ad e (.inr hF),fun q hq ad e hF=>HA.out.2 q hq ad e (.inr hF)⟩
 have s2 : w4.cell? ⟨s,2,none⟩ = some (.pointer (some ⟨g,0,none⟩)):=h4.row.cell rfl
 have hsl4:=h4.row.lt
 obtain ⟨e0,e1,e2,e3,e4,e5,e6,e7,e8,e9⟩:=rec_cells hX4
 have hxl4:=hX4.lt
 have HDO:=Lib.hid hdo
 have H4:=Lib.hid h4
 have HT4:=Lib.hid hT24
 have HD4:=Lib.hid (show (doK k r).dm = k.dm from doK_dm k r)
 have HX4:=Lib.hid hX4
 unfold recAgg at HDO
 clear hdo h4 hT4 hT4' hT24 hk4 hap4 hX4 hP2 hP4 hlog4 s1' hsl3
 go_wp2_with fail
 go_still_tail 5,(by kernel_rfl)
 change wpList _ _ _ _ _ w4.drew
 go_wp2_with (go_at_call 88;refine HDO.out.mono ?_;rintro e w5 ⟨rfl,F5,Ft5,p5,hk5,hT5⟩)
 go_ret
 have hTk : Turn Fk w4 F5 w5:=(Turn.drewN Fk w4 1).trans hT5
 have hb4 : ShB w4 B F4 G4 s d lp g N tn st4 su4 (R ++ [r]) [] (R ++ [r]).length:=H4.out
 have hTz : Turn (Zb Fd Gd s) w (Zb F4 G4 s) w4:=(Turn.below _ HBW2.out).trans HT4.out
 obtain ⟨hfin,hTf⟩:=H.out.after hb4 hTz hk5 hTk HG.out (by rw [HD4.out];exact mayL_snoc _ _ _ H.out.may (by rw [H.out.is];exact HM.out)) (by rw [HD4.out,doL_app,H.out.is];rfl)
 exact ⟨rfl,_,⟨F4,G4,F5,Ft5,lp,g,t,p5,st4,su4,hfin,rfl⟩,hTf⟩
end
end
section
open Go Go.RowKit
section
variable {w w' : World} {B : Nat} {Fd Gd Fk Ft : Nat -> Prop} {s d lp g t p N tn st : Nat} {su : List ByteArray} {R : List RK} {k : KS} {Z : Nat -> Prop}
theorem place_any (h : ShR w B Fd Gd Fk Ft s d lp g t p N tn st su R k) (kd x K : Int) (A : Option Addr) (n c : Nat) (vec : List Int) (hR : Reads w w.heap.size 1 A n (ints vec)) (hn : n <= maxLen) (hfew : k.T.length < 512) :
  Calls Tryz.prog 75 #[.pointer (some ⟨s,0,none⟩),.agg #[.int .i64 kd,.int .i64 x,.slice A n c,.int .i64 K]] w fun e w'=>e = .returned (.int .i64 (ck vec (k.dm : Int))) /\ Below w.heap.size w w':=by
 obtain ⟨W,hW⟩ : ∃ W,w.alloc (.cells #[.int .i64 kd,.int .i64 x,.slice A n c,.int .i64 K] 29) = W:=⟨_,rfl⟩
 have hbW : Below w.heap.size w W:=by rw [<- hW];exact (Below.refl _ _).alloc (Nat.le_refl _) _
 have hX : Row W w.heap.size 29 [.int .i64 kd,.int .i64 x,.slice A n c,.int .i64 K]:=by rw [<- hW];exact Row.new w _ _
 have hW1:=h.below hbW
 have s2 : W.cell? ⟨s,2,none⟩ = some (.pointer (some ⟨g,0,none⟩)):=hW1.b.row.cell rfl
 have hsl:=hW1.b.row.lt
 have c0:=hW1.kept.c0
 have c5:=hW1.kept.c5
 have hgl:=hW1.kept.gl
 have x2 : W.cell? ⟨w.heap.size,2,none⟩ = some (.slice A n c):=hX.cell rfl
 have hxl:=hX.lt
 have HC:=Lib.hid (check_any A n c w.heap.size vec (k.dm : Int) W.drew ((hR.below hbW).drewN 1) hn)
 have HL:=Lib.hid (fun q=>t_len ((hW1.drewN q).kept.tree))
 have HB:=Lib.hid hbW
 have HWl:=Lib.hid hW
 have H1:=Lib.hid hW1
 have hfz : (k.T.length : Int) < 512:=by omega
 have HKn:=Lib.hid hfew
 clear h hbW hX hW1 hW hR hfew
 rcases ck_or vec (k.dm : Int) with hk | hk
 ·rw [hk] at HC ⊢
  clear hk
  go_enter Tryz.func75,Tryz.ntmps75
  go_wp2_with fail
  rw [HWl.out]
  go_still_tail 9,(by kernel_rfl)
  change wpList _ _ _ _ _ W.drew
  go_wp2_with (go_at_call 104;refine HC.out.mono ?_;rintro e w2 ⟨rfl,q,rfl⟩)
  have s2' : (W.drewN (1 + q)).cell? ⟨s,2,none⟩ = some (.pointer (some ⟨g,0,none⟩)):=s2
  have c5' : (W.drewN (1 + q)).cell? ⟨g,5,none⟩ = some (.pointer (some ⟨t,0,none⟩)):=c5
  have HL2:=Lib.hid (HL.out (1 + q))
  go_wp2_with fail
  refine HL2.out.mono ?_
  rintro e w3 ⟨rfl,q3,rfl⟩
  go_wp2_with fail
  go_ret
  exact ⟨rfl,by first | exact below_drewN HB.out _ | exact below_drewN (below_drewN HB.out _) _⟩
 ·rw [hk] at HC ⊢
  clear hk
  go_enter Tryz.func75,Tryz.ntmps75
  go_wp2_with fail
  rw [HWl.out]
  go_still_tail 9,(by kernel_rfl)
  change wpList _ _ _ _ _ W.drew
  go_wp2_with (go_at_call 104;refine HC.out.mono ?_;rintro e w2 ⟨rfl,q,rfl⟩)
  go_ret
  exact ⟨rfl,below_drewN HB.out _⟩
end
end
section
open Go Go.RowKit
structure ChV (w W : World) (kd x K : Int) (A : Option Addr) (n c : Nat) (rk cl sq : Int) (v1 : Value) : Prop where
 op : Row W w.heap.size 29 [.int .i64 kd,.int .i64 x,.slice A n c,.int .i64 K]
 pt : Row W (w.heap.size + 1) 104 [.int .i64 x,v1]
 rc : Row W (w.heap.size + 2) 107 [.int .i64 rk,.int .i64 0,.int .i64 0,.int .i64 0,.int .i64 0,.int .i64 0,.int .i64 cl,.int .i64 sq,.string ⟨#[]⟩,.slice (some ⟨w.heap.size + 1,0,none⟩) 1 1]
 bel : Below w.heap.size w W
theorem ChV.on {w W W' : World} {kd x K : Int} {A : Option Addr} {n c : Nat} {rk cl sq : Int} {v1 : Value} (h : ChV w W kd x K A n c rk cl sq v1) (hb : Below W.heap.size W W') : ChV w W' kd x K A n c rk cl sq v1 :=
 ⟨h.op.keep (hb.block _ h.op.lt),h.pt.keep (hb.block _ h.pt.lt),h.rc.keep (hb.block _ h.rc.lt),h.bel.trans (hb.mono h.bel.size)⟩
theorem chv_new (w : World) (kd x K : Int) (A : Option Addr) (n c : Nat) (cl sq : Int) : ChV w (((w.alloc (.cells #[.int .i64 kd,.int .i64 x,.slice A n c,.int .i64 K] 29)).alloc (.cells #[.int .i64 x,.slice none 0 0] 104)).alloc (.cells #[.int .i64 5,.int .i64 0,.int .i64 0,.int .i64 0,.int .i64 0,.int .i64 0,.int .i64 cl,.int .i64 sq,.string ⟨#[]⟩,.slice (some ⟨w.heap.size + 1,0,none⟩) 1 1] 107)) kd x K A n c 5 cl sq (.slice none 0 0):=by
 have r1:=Row.new w 29 [.int .i64 kd,.int .i64 x,.slice A n c,.int .i64 K]
 have r2:=Row.new (w.alloc (.cells #[.int .i64 kd,.int .i64 x,.slice A n c,.int .i64 K] 29)) 104 [.int .i64 x,.slice none 0 0]
 have r3:=Row.new ((w.alloc (.cells #[.int .i64 kd,.int .i64 x,.slice A n c,.int .i64 K] 29)).alloc (.cells #[.int .i64 x,.slice none 0 0] 104)) 107 [.int .i64 5,.int .i64 0,.int .i64 0,.int .i64 0,.int .i64 0,.int .i64 0,.int .i64 cl,.int .i64 sq,.string ⟨#[]⟩,.slice (some ⟨w.heap.size + 1,0,none⟩) 1 1]
 simp only [World.size_alloc] at r2 r3
 refine ⟨(r1.keep (heap_alloc_lt _ _ (by simp))).keep (heap_alloc_lt _ _ (by simp;omega)),r2.keep (heap_alloc_lt _ _ (by simp)),r3,(((Below.refl _ _).alloc (Nat.le_refl _) _).alloc (by simp) _).alloc (by simp;omega) _⟩
section
variable {w w' : World} {B : Nat} {Fd Gd Fk Ft : Nat -> Prop} {s d lp g t p N tn st : Nat} {su : List ByteArray} {R : List RK} {k : KS} {Z : Nat -> Prop}
theorem change_bad (h : ShR w B Fd Gd Fk Ft s d lp g t p N tn st su R k) (cl sq x K : Int) (A : Option Addr) (n c : Nat) (vec : List Int) (hR : Reads w w.heap.size 1 A n (ints vec)) (hn : n <= maxLen) (hfew : k.T.length < 512) (hk : ck vec (k.dm : Int) = 50) :
  Calls Tryz.prog 48 #[.pointer (some ⟨s,0,none⟩),.int .i64 cl,.int .i64 sq,.agg #[.int .i64 1,.int .i64 x,.slice A n c,.int .i64 K]] w fun e w'=>e = .returned (.int .i64 50) /\ Below w.heap.size w w':=by
 have hv:=chv_new w 1 x K A n c cl sq
 obtain ⟨W,hW⟩ : ∃ W,((w.alloc (.cells #[.int .i64 1,.int .i64 x,.slice A n c,.int .i64 K] 29)).alloc (.cells #[.int .i64 x,.slice none 0 0] 104)).alloc (.cells #[.int .i64 5,.int .i64 0,.int .i64 0,.int .i64 0,.int .i64 0,.int .i64 0,.int .i64 cl,.int .i64 sq,.string ⟨#[]⟩,.slice (some ⟨w.heap.size + 1,0,none⟩) 1 1] 107) = W:=⟨_,rfl⟩
 have HWl:=Lib.hid hW
 rw [hW] at hv
 have o0:=hv.op.cell (j:=0) (u:=.int .i64 1) rfl
 have o1:=hv.op.cell (j:=1) (u:=.int .i64 x) rfl
 have o2:=hv.op.cell (j:=2) (u:=.slice A n c) rfl
 have o3:=hv.op.cell (j:=3) (u:=.int .i64 K) rfl
 have ol:=hv.op.lt
 rw [<- hW] at o0 o1 o2 o3 ol
 have HP:=Lib.hid (place_any (h.below hv.bel) 1 x K A n c vec ((hR.below hv.bel).more hv.bel.size) hn hfew)
 rw [hk] at HP
 have HV:=Lib.hid hv
 clear hv hW h hR hk
 go_enter Tryz.func48,Tryz.ntmps48
 go_wp2_with fail
 rw [HWl.out]
 refine HP.out.mono ?_
 rintro e w2 ⟨rfl,hb2⟩
 go_wp2_with fail
 go_ret
 exact ⟨rfl,HV.out.bel.trans (hb2.mono HV.out.bel.size)⟩
theorem after_build {w3 w4 : World} {tn' : Nat} {R' : List RK} {k' : KS} {Fd' Gd' Fk' Ft' Ft2 : Nat -> Prop} {lp' g' t' p' st' : Nat} {su' : List ByteArray} (h : ShR w3 B Fd' Gd' Fk' Ft' s d lp' g' t' p' N tn' st' su' R' k') (ht : Tree w4 Ft2 t' k'.dm k'.T) (T : Turn Ft' w3 Ft2 w4) : ∃ Z2,ShW w4 B Z2 s d N tn' R' k' /\ Turn (Za Fd' Gd' Fk' s) w3 Z2 w4:=by
 obtain ⟨hk,hT⟩:=h.kept.atTree ht T
 obtain ⟨h4,hT4⟩:=h.after h.b (Turn.refl _ _) hk hT h.good h.may h.is
 exact ⟨_,⟨_,_,_,_,_,_,_,_,_,_,h4,rfl⟩,hT4⟩
theorem change_ins (h : ShR w B Fd Gd Fk Ft s d lp g t p N tn st su R k) (cl sq x K : Int) (A : Option Addr) (n c : Nat) (vec : List Int) (hR : Reads w w.heap.size 1 A n (ints vec)) (hn : n <= maxLen) (hfew : k.T.length < 512) (hk : ck vec (k.dm : Int) = 0)
  (hA : ∀ ad,A = some ad -> ¬ Za Fd Gd Fk s ad.block) (h1 : Be.S64 cl) (h2 : Be.S64 sq) (h3 : Be.S64 x) (hv1 : k.vr < 1000000000) (hfit : (encs (R.map RK.bytes)).length + ((RK.ins cl sq (x,vec)).bytes.length + 14) <= 128 * hB N tn) :
  Calls Tryz.prog 48 #[.pointer (some ⟨s,0,none⟩),.int .i64 cl,.int .i64 sq,.agg #[.int .i64 1,.int .i64 x,.slice A n c,.int .i64 K]] w (KeepPost B s d N tn (Za Fd Gd Fk s) (R ++ [RK.ins cl sq (x,vec)]) (insK k cl sq (x,vec)) w):=by
 have hv:=chv_new w 1 x K A n c cl sq
 obtain ⟨W,hW⟩ : ∃ W,((w.alloc (.cells #[.int .i64 1,.int .i64 x,.slice A n c,.int .i64 K] 29)).alloc (.cells #[.int .i64 x,.slice none 0 0] 104)).alloc (.cells #[.int .i64 5,.int .i64 0,.int .i64 0,.int .i64 0,.int .i64 0,.int .i64 0,.int .i64 cl,.int .i64 sq,.string ⟨#[]⟩,.slice (some ⟨w.heap.size + 1,0,none⟩) 1 1] 107) = W:=⟨_,rfl⟩
 have HWl:=Lib.hid hW
 rw [hW] at hv
 have o0:=hv.op.cell (j:=0) (u:=.int .i64 1) rfl
 have o1:=hv.op.cell (j:=1) (u:=.int .i64 x) rfl
 have o2:=hv.op.cell (j:=2) (u:=.slice A n c) rfl
 have o3:=hv.op.cell (j:=3) (u:=.int .i64 K) rfl
 have ol:=hv.op.lt
 rw [<- hW] at o0 o1 o2 o3 ol
 have HP:=Lib.hid (place_any (h.below hv.bel) 1 x K A n c vec ((hR.below hv.bel).more hv.bel.size) hn hfew)
 rw [hk] at HP
 have HV:=Lib.hid hv
 have H:=Lib.hid h
 have HR:=Lib.hid hR
 have HA:=Lib.hid hA
 have HF:=Lib.hid hfit
 have HK:=Lib.hid hk
 clear hv hW h hR hk hA hfit
 go_enter Tryz.func48,Tryz.ntmps48
 go_wp2_with fail
 rw [HWl.out]
 refine HP.out.mono ?_
 rintro e w2 ⟨rfl,hb2⟩
 have V2:=HV.out.on hb2
 have p2:=V2.op.cell (j:=2) (u:=.slice A n c) rfl
 have r0:=V2.rc.cell (j:=0) (u:=.int .i64 5) rfl
 have r9:=V2.rc.cell (j:=9) (u:=.slice (some ⟨w.heap.size + 1,0,none⟩) 1 1) rfl
 have q1:=V2.pt.cell (j:=1) (u:=.slice none 0 0) rfl
 have zr:=V2.rc.frozen 0
 have zq:=V2.pt.frozen 1
 have l0:=V2.op.lt
 have l1:=V2.pt.lt
 have l2:=V2.rc.lt
 obtain ⟨V,hV⟩ : ∃ V,(w2.setCell ⟨w.heap.size + 2,0,none⟩ (.int .i64 4)).setCell ⟨w.heap.size + 1,1,none⟩ (.slice A n c) = V:=⟨_,rfl⟩
 have V3 : ChV w V 1 x K A n c 4 cl sq (.slice A n c):=by
  rw [<- hV]
  refine ⟨(V2.op.keep (heap_set_ne _ _ _ (by simp))).keep (heap_set_ne _ _ _ (by simp)),(V2.pt.keep (heap_set_ne _ _ _ (by simp))).set 1 (.slice A n c),(V2.rc.set 0 (.int .i64 4)).keep (heap_set_ne _ _ _ (by simp)),(V2.bel.setCell (by simp) _).setCell (by simp) _⟩
 have m:=fun j=>V3.rc.frozen j
 have t0:=V3.rc.cell (j:=0) (u:=.int .i64 4) rfl
 have t1:=V3.rc.cell (j:=1) (u:=.int .i64 0) rfl
 have t2:=V3.rc.cell (j:=2) (u:=.int .i64 0) rfl
 have t3:=V3.rc.cell (j:=3) (u:=.int .i64 0) rfl
 have t4:=V3.rc.cell (j:=4) (u:=.int .i64 0) rfl
 have t5:=V3.rc.cell (j:=5) (u:=.int .i64 0) rfl
 have t6:=V3.rc.cell (j:=6) (u:=.int .i64 cl) rfl
 have t7:=V3.rc.cell (j:=7) (u:=.int .i64 sq) rfl
 have t8:=V3.rc.cell (j:=8) (u:=.string ⟨#[]⟩) rfl
 have t9:=V3.rc.cell (j:=9) (u:=.slice (some ⟨w.heap.size + 1,0,none⟩) 1 1) rfl
 have tl:=V3.rc.lt
 rw [<- hV] at t0 t1 t2 t3 t4 t5 t6 t7 t8 t9 tl
 have hpts : Pts V V.heap.size (some ⟨w.heap.size + 1,0,none⟩) 1 [(x,(A,n,c),vec)]:=by
  refine ⟨⟨rfl,fun _=>⟨_,rfl,V3.pt.lt,fun j u hj=>?_⟩⟩,fun q hq=>?_⟩
  ·rw [add_flat,Nat.zero_add]
   exact V3.pt.cell hj
  ·rw [List.mem_singleton] at hq
   subst hq
   exact ⟨⟨(HR.out.below V3.bel).more V3.bel.size,hn⟩,s64_wf h3⟩
 have haw : Away (Za Fd Gd Fk s) [(x,(A,n,c),vec)] (some ⟨w.heap.size + 1,0,none⟩):=by
  refine ⟨fun ad e hZ=>?_,fun q hq ad e=>?_⟩
  ·cases e
   rcases hZ with hZ | hZ
   ·have:=H.out.b.lt _ hZ
    simp only at this
    omega
   ·have:=H.out.kept.lt _ hZ
    simp only at this
    omega
  ·rw [List.mem_singleton] at hq
   subst hq
   exact HA.out ad e
 have hgd:=H.out.good
 have hkp:=keep_ok (H.out.below V3.bel) (RK.ins cl sq (x,vec)) (fun m h=>by cases h) ⟨h1,h2,h3,HK.out,.inr hfew,hgd.v0,hgd.v1⟩ (hgd.ins h3 HK.out (.inr hfew) hv1) HF.out (some ⟨w.heap.size + 1,0,none⟩) 1 1 [(x,(A,n,c),vec)] hpts rfl haw
 simp only [RK.rc,rec0] at hkp
 have HKP:=Lib.hid hkp
 have HVl:=Lib.hid hV
 have HB3:=Lib.hid V3.bel
 clear hkp hV V3 V2 hpts haw hgd m HF HP
 go_wp2_with fail
 rw [HVl.out]
 refine HKP.out.mono ?_
 rintro e w4 ⟨rfl,Z4,hs4,hT4⟩
 obtain ⟨Fd4,Gd4,Fk4,Ft4,lp4,g4,tt4,p4,st4,su4,h4,rfl⟩:=hs4
 have s2 : w4.cell? ⟨s,2,none⟩ = some (.pointer (some ⟨g4,0,none⟩)):=h4.b.row.cell rfl
 have sl4:=h4.b.row.lt
 have k4:=h4.kept.c4
 have k5:=h4.kept.c5
 have kl4:=h4.kept.gl
 have HBD:=Lib.hid (t_build h4.kept.tree)
 have H4:=Lib.hid h4
 have HT4:=Lib.hid ((Turn.below _ HB3.out).trans hT4)
 have hvv : 0 <= (doK k (RK.ins cl sq (x,vec))).vr:=h4.good.v0
 generalize hvr : (doK k (RK.ins cl sq (x,vec))).vr = vr at k4 hvv
 have HVR:=Lib.hid hvr
 clear h4 hT4 hvr
 by_cases hmod : vr % 64 = 0
 ·go_wp2_with fail
  refine HBD.out.mono ?_
  rintro e w5 ⟨rfl,Ft5,ht5,hT5⟩
  obtain ⟨Z5,hs5,hZ5⟩:=after_build H4.out ht5 hT5
  go_wp2_with fail
  go_ret
  exact ⟨rfl,Z5,hs5,HT4.out.trans hZ5⟩
 ·go_wp2_with fail
  go_ret
  exact ⟨rfl,_,⟨_,_,_,_,_,_,_,_,_,_,H4.out,rfl⟩,HT4.out⟩
end
end
section
open Go Go.RowKit
theorem find_put {q : List Be.E} {c n : Int} (hq : Be.Okq q) (hm : Be.mayB c n = true) (h : (Be.findM q c n).2 = 3) (was : Bool) : Be.findM (Be.putM q c n 0 was).1 c n = ((0,was),0):=by
 unfold Be.findM at h ⊢
 rw [if_pos hm] at h ⊢
 have hlt : q[c.toNat]!.s < n:=by
  split at h
  ·simp at h
  ·split at h
   ·assumption
   ·simp at h
 have hc:=hm
 simp only [Be.mayB,Be.cliB,Bool.and_eq_true,decide_eq_true_eq] at hc
 have hk : c.toNat < q.length:=by rw [hq.len];omega
 unfold Be.putM
 have he : (Be.mayB c n && Be.errB 0) = true:=by rw [hm];rfl
 rw [if_pos he,if_neg (Int.not_le.2 hlt)]
 have hs:=Be.set_get q hk ⟨n,0,was⟩
 show (if n < (q.set c.toNat ⟨n,0,was⟩)[c.toNat]!.s then ((0,false),90) else if (q.set c.toNat ⟨n,0,was⟩)[c.toNat]!.s < n then ((0,false),3) else (((q.set c.toNat ⟨n,0,was⟩)[c.toNat]!.e,(q.set c.toNat ⟨n,0,was⟩)[c.toNat]!.b),0)) = _
 rw [hs]
 simp
theorem Turn.aside {Z Z' : Nat -> Prop} {w w1 w2 : World} {Y : Nat} (T : Turn Z w Z' w1) (TY : Turn (fun b=>b = Y) w1 (fun b=>b = Y) w2) (hY : w.heap.size <= Y) : Turn Z w Z' w2 :=
 ⟨TY.os.trans T.os,TY.tape.trans T.tape,TY.output.trans T.output,Nat.le_trans T.size TY.size,fun b hb hZ=>(TY.block b (Nat.lt_of_lt_of_le hb T.size) (fun e=>by omega)).trans (T.block b hb hZ),T.foot⟩
section
variable {w w' : World} {B : Nat} {Fd Gd Fk Ft : Nat -> Prop} {s d lp g t p N tn st : Nat} {su : List ByteArray} {R : List RK} {k : KS} {Z : Nat -> Prop}
def swrV (rp : Int × Bool) (e : Int) : Value:=.tuple #[.agg #[.int .i64 rp.1,.bool rp.2,.slice none 0 0],.int .i64 e]
def SwrPost (B s d N tn : Nat) (Z : Nat -> Prop) (R : List RK) (k : KS) (rp : Int × Bool) (w : World) (e : Ending) (w' : World) : Prop:=e = .returned (swrV rp 0) /\ ∃ Z',ShW w' B Z' s d N tn R k /\ Turn Z w Z' w'
theorem write_again (h : ShR w B Fd Gd Fk Ft s d lp g t p N tn st su R k) (hst : k.st = 2) (cl sq x K : Int) (kd : Int) (hkd : kd = 1 \/ kd = 2) (A : Option Addr) (n c : Nat) (hm : Be.mayB cl sq = true) (rp : Int × Bool) (er : Int) (hf : Be.findM k.q cl sq = (rp,er)) (her : er ≠ 3) (her1 : er ≠ 1) :
  Calls Tryz.prog 16 #[.pointer (some ⟨s,0,none⟩),.int .i64 cl,.int .i64 sq,.agg #[.int .i64 kd,.int .i64 x,.slice A n c,.int .i64 K]] w fun e w'=>e = .returned (swrV rp er) /\ Below w.heap.size w w':=by
 obtain ⟨W,hW⟩ : ∃ W,(w.alloc (.cells #[.int .i64 kd,.int .i64 x,.slice A n c,.int .i64 K] 29)).alloc (.cells #[.int .i64 0,.bool false,.slice none 0 0] 52) = W:=⟨_,rfl⟩
 have hbW : Below w.heap.size w W:=by rw [<- hW];exact ((Below.refl _ _).alloc (Nat.le_refl _) _).alloc (by simp) _
 have hX : Row W w.heap.size 29 [.int .i64 kd,.int .i64 x,.slice A n c,.int .i64 K]:=by
  rw [<- hW]
  exact (Row.new w 29 [.int .i64 kd,.int .i64 x,.slice A n c,.int .i64 K]).keep (heap_alloc_lt _ _ (by simp))
 have hY : Row W (w.heap.size + 1) 52 [.int .i64 0,.bool false,.slice none 0 0]:=by
  rw [<- hW]
  have:=Row.new (w.alloc (.cells #[.int .i64 kd,.int .i64 x,.slice A n c,.int .i64 K] 29)) 52 [.int .i64 0,.bool false,.slice none 0 0]
  rw [World.size_alloc] at this
  exact this
 have hW1:=h.below hbW
 have x0 : W.cell? ⟨w.heap.size,0,none⟩ = some (.int .i64 kd):=hX.cell rfl
 have xl:=hX.lt
 have s2 : W.cell? ⟨s,2,none⟩ = some (.pointer (some ⟨g,0,none⟩)):=hW1.b.row.cell rfl
 have hsl:=hW1.b.row.lt
 have c6:=hW1.kept.c6
 have hgl:=hW1.kept.gl
 have HG:=Lib.hid (sgiven_any hW1)
 have hfi:=Be.find_any hW1.kept.tab cl sq
 rw [hf] at hfi
 have HFi:=Lib.hid hfi
 have HB:=Lib.hid hbW
 have HY:=Lib.hid hY
 have HWl:=Lib.hid hW
 have H1:=Lib.hid hW1
 clear h hbW hX hY hW hW1 hf hfi hm
 rcases hkd with rfl | rfl
 ·go_enter Tryz.func16,Tryz.ntmps16
  go_wp2_with fail
  rw [HWl.out]
  go_wp2_with (with_reducible refine HG.out.mono ?_;rintro e w1 ⟨rfl,rfl⟩)
  refine HFi.out.mono ?_
  rintro e w2 ⟨rfl,hb2⟩
  unfold Be.repV
  obtain ⟨rp1,rp2⟩:=rp
  have hb3 : Below w2.heap.size w2 (w2.alloc (.cells #[.int .i64 rp1,.bool rp2,.slice none 0 0] 52)):=(Below.refl _ _).alloc (Nat.le_refl _) _
  have H3:=(H1.out.below hb2).below hb3
  have HS:=Lib.hid (sis_any H3 2)
  rw [show (k.st == 2) = true by simp [hst]] at HS
  have Y3:=(HY.out.keep (hb2.block _ HY.out.lt)).keep (hb3.block _ (Nat.lt_of_lt_of_le HY.out.lt hb2.size))
  have y0:=Y3.cell (j:=0) (u:=.int .i64 0) rfl
  have y1:=Y3.cell (j:=1) (u:=.bool false) rfl
  have y2:=Y3.cell (j:=2) (u:=.slice none 0 0) rfl
  have yz:=fun j=>Y3.frozen j
  have yl:=Y3.lt
  have HBf:=Lib.hid ((HB.out.trans (hb2.mono HB.out.size)).trans (hb3.mono (Nat.le_trans HB.out.size hb2.size)))
  clear H3 Y3 hb3 hb2
  go_wp2_with fail
  refine HS.out.mono ?_
  rintro e w3 ⟨rfl,rfl⟩
  go_wp2_with fail
  refine bodyPost_ret (v:=swrV (rp1,rp2) er) (by simp [results,Tryz.results16,go_sem,swrV,y0,y1,y2,yl]) rfl ⟨rfl,?_⟩
  exact ((HBf.out.setCell (by simp) _).setCell (by simp) _).setCell (by simp) _
 ·go_enter Tryz.func16,Tryz.ntmps16
  go_wp2_with fail
  rw [HWl.out]
  go_wp2_with (with_reducible refine HG.out.mono ?_;rintro e w1 ⟨rfl,rfl⟩)
  refine HFi.out.mono ?_
  rintro e w2 ⟨rfl,hb2⟩
  unfold Be.repV
  obtain ⟨rp1,rp2⟩:=rp
  have hb3 : Below w2.heap.size w2 (w2.alloc (.cells #[.int .i64 rp1,.bool rp2,.slice none 0 0] 52)):=(Below.refl _ _).alloc (Nat.le_refl _) _
  have H3:=(H1.out.below hb2).below hb3
  have HS:=Lib.hid (sis_any H3 2)
  rw [show (k.st == 2) = true by simp [hst]] at HS
  have Y3:=(HY.out.keep (hb2.block _ HY.out.lt)).keep (hb3.block _ (Nat.lt_of_lt_of_le HY.out.lt hb2.size))
  have y0:=Y3.cell (j:=0) (u:=.int .i64 0) rfl
  have y1:=Y3.cell (j:=1) (u:=.bool false) rfl
  have y2:=Y3.cell (j:=2) (u:=.slice none 0 0) rfl
  have yz:=fun j=>Y3.frozen j
  have yl:=Y3.lt
  have HBf:=Lib.hid ((HB.out.trans (hb2.mono HB.out.size)).trans (hb3.mono (Nat.le_trans HB.out.size hb2.size)))
  clear H3 Y3 hb3 hb2
  go_wp2_with fail
  refine HS.out.mono ?_
  rintro e w3 ⟨rfl,rfl⟩
  go_wp2_with fail
  refine bodyPost_ret (v:=swrV (rp1,rp2) er) (by simp [results,Tryz.results16,go_sem,swrV,y0,y1,y2,yl]) rfl ⟨rfl,?_⟩
  exact ((HBf.out.setCell (by simp) _).setCell (by simp) _).setCell (by simp) _
theorem write_ins (h : ShR w B Fd Gd Fk Ft s d lp g t p N tn st su R k) (hst : k.st = 2) (cl sq x K : Int) (A : Option Addr) (n c : Nat) (vec : List Int) (hm : Be.mayB cl sq = true) (hf : (Be.findM k.q cl sq).2 = 3) (hR : Reads w w.heap.size 1 A n (ints vec)) (hn : n <= maxLen) (hfew : k.T.length < 512) (hk : ck vec (k.dm : Int) = 0)
  (hA : ∀ ad,A = some ad -> ¬ Za Fd Gd Fk s ad.block) (h3 : Be.S64 x) (hv1 : k.vr < 1000000000) (hfit : (encs (R.map RK.bytes)).length + ((RK.ins cl sq (x,vec)).bytes.length + 14) <= 128 * hB N tn) :
  Calls Tryz.prog 16 #[.pointer (some ⟨s,0,none⟩),.int .i64 cl,.int .i64 sq,.agg #[.int .i64 1,.int .i64 x,.slice A n c,.int .i64 K]] w (SwrPost B s d N tn (Za Fd Gd Fk s) (R ++ [RK.ins cl sq (x,vec)]) (insK k cl sq (x,vec)) (0,hasT x k.T) w):=by
 obtain ⟨W,hW⟩ : ∃ W,(w.alloc (.cells #[.int .i64 1,.int .i64 x,.slice A n c,.int .i64 K] 29)).alloc (.cells #[.int .i64 0,.bool false,.slice none 0 0] 52) = W:=⟨_,rfl⟩
 have hbW : Below w.heap.size w W:=by rw [<- hW];exact ((Below.refl _ _).alloc (Nat.le_refl _) _).alloc (by simp) _
 have hX : Row W w.heap.size 29 [.int .i64 1,.int .i64 x,.slice A n c,.int .i64 K]:=by
  rw [<- hW]
  exact (Row.new w 29 [.int .i64 1,.int .i64 x,.slice A n c,.int .i64 K]).keep (heap_alloc_lt _ _ (by simp))
 have hY : Row W (w.heap.size + 1) 52 [.int .i64 0,.bool false,.slice none 0 0]:=by
  rw [<- hW]
  have:=Row.new (w.alloc (.cells #[.int .i64 1,.int .i64 x,.slice A n c,.int .i64 K] 29)) 52 [.int .i64 0,.bool false,.slice none 0 0]
  rw [World.size_alloc] at this
  exact this
 have hW1:=h.below hbW
 have x0 : W.cell? ⟨w.heap.size,0,none⟩ = some (.int .i64 1):=hX.cell rfl
 have xl:=hX.lt
 have s2 : W.cell? ⟨s,2,none⟩ = some (.pointer (some ⟨g,0,none⟩)):=hW1.b.row.cell rfl
 have hsl:=hW1.b.row.lt
 have c6:=hW1.kept.c6
 have hgl:=hW1.kept.gl
 have HG:=Lib.hid (sgiven_any hW1)
 have hfi:=Be.find_any hW1.kept.tab cl sq
 rw [hf] at hfi
 obtain ⟨rp,hrp⟩ : ∃ rp,(Be.findM k.q cl sq).1 = rp:=⟨_,rfl⟩
 rw [hrp] at hfi
 have hc64 : Be.S64 cl /\ Be.S64 sq:=by
  simp only [Be.mayB,Be.cliB,Be.seqB,Bool.and_eq_true,decide_eq_true_eq] at hm
  exact ⟨⟨by omega,by omega⟩,⟨by omega,by omega⟩⟩
 have HFP:=Lib.hid (find_put h.good.tab hm hf (hasT x k.T))
 have HRr:=Lib.hid hR
 have HCH:=Lib.hid (show ∀ w2,Below w.heap.size w w2 -> Calls Tryz.prog 48 #[.pointer (some ⟨s,0,none⟩),.int .i64 cl,.int .i64 sq,.agg #[.int .i64 1,.int .i64 x,.slice A n c,.int .i64 K]] w2 (KeepPost B s d N tn (Za Fd Gd Fk s) (R ++ [RK.ins cl sq (x,vec)]) (insK k cl sq (x,vec)) w2) from fun w2 hb=>change_ins (h.below hb) cl sq x K A n c vec ((hR.below hb).more hb.size) hn hfew hk hA hc64.1 hc64.2 h3 hv1 hfit)
 have HFi:=Lib.hid hfi
 have HB:=Lib.hid hbW
 have HY:=Lib.hid hY
 have HWl:=Lib.hid hW
 have H1:=Lib.hid hW1
 have HYz:=Lib.hid (show ¬ Za Fd Gd Fk s (w.heap.size + 1) from fun hZ=>by
  rcases hZ with hZ | hZ
  ·have:=h.b.lt _ hZ
   omega
  ·have:=h.kept.lt _ hZ
   omega)
 have o1:=hX.cell (j:=1) (u:=.int .i64 x) rfl
 have o2:=hX.cell (j:=2) (u:=.slice A n c) rfl
 have o3:=hX.cell (j:=3) (u:=.int .i64 K) rfl
 have HX:=Lib.hid hX
 have HBl:=Lib.hid h.b.log.tab.le
 clear h hbW hX hY hW hW1 hf hfi hm hR hk hA hfit hc64 hrp
 go_enter Tryz.func16,Tryz.ntmps16
 go_wp2_with fail
 rw [HWl.out]
 go_wp2_with (with_reducible refine HG.out.mono ?_;rintro e w1 ⟨rfl,rfl⟩)
 refine HFi.out.mono ?_
 rintro e w2 ⟨rfl,hb2⟩
 unfold Be.repV
 obtain ⟨rp1,rp2⟩:=rp
 have hb3 : Below w2.heap.size w2 (w2.alloc (.cells #[.int .i64 rp1,.bool rp2,.slice none 0 0] 52)):=(Below.refl _ _).alloc (Nat.le_refl _) _
 have H3:=(H1.out.below hb2).below hb3
 have HS:=Lib.hid (sis_any H3 2)
 rw [show (k.st == 2) = true by simp [hst]] at HS
 have Y3:=(HY.out.keep (hb2.block _ HY.out.lt)).keep (hb3.block _ (Nat.lt_of_lt_of_le HY.out.lt hb2.size))
 have X3:=(HX.out.keep (hb2.block _ HX.out.lt)).keep (hb3.block _ (Nat.lt_of_lt_of_le HX.out.lt hb2.size))
 have p0:=X3.cell (j:=0) (u:=.int .i64 1) rfl
 have p1:=X3.cell (j:=1) (u:=.int .i64 x) rfl
 have p2:=X3.cell (j:=2) (u:=.slice A n c) rfl
 have p3:=X3.cell (j:=3) (u:=.int .i64 K) rfl
 have pl:=X3.lt
 have hbw3 : Below w.heap.size w (w2.alloc (.cells #[.int .i64 rp1,.bool rp2,.slice none 0 0] 52)):=(HB.out.trans (hb2.mono HB.out.size)).trans (hb3.mono (Nat.le_trans HB.out.size hb2.size))
 have HC3:=Lib.hid (HCH.out _ hbw3)
 have HBf:=Lib.hid hbw3
 have HY3:=Lib.hid Y3
 clear H3 Y3 X3 hb3 hb2 hbw3 o1 o2 o3
 go_wp2_with fail
 refine HS.out.mono ?_
 rintro e w3 ⟨rfl,rfl⟩
 go_wp2_with fail
 refine HC3.out.mono ?_
 rintro e w4 ⟨rfl,Z4,hs4,hT4⟩
 have Y4:=HY3.out.keep (hT4.block _ HY3.out.lt HYz.out)
 obtain ⟨Fd4,Gd4,Fk4,Ft4,lp4,g4,t4,p4,st4,su4,h4,rfl⟩:=hs4
 have s2 : w4.cell? ⟨s,2,none⟩ = some (.pointer (some ⟨g4,0,none⟩)):=h4.b.row.cell rfl
 have sl4:=h4.b.row.lt
 have k6:=h4.kept.c6
 have kl4:=h4.kept.gl
 have hfin:=Be.find_any h4.kept.tab cl sq
 have hq : (insK k cl sq (x,vec)).q = (Be.putM k.q cl sq 0 (hasT x k.T)).1:=rfl
 rw [hq,HFP.out] at hfin
 have HFN:=Lib.hid hfin
 have H4:=Lib.hid h4
 have HT4:=Lib.hid ((Turn.below _ HBf.out).trans hT4)
 have HTr:=Lib.hid hT4
 have HY4:=Lib.hid Y4
 clear h4 hT4 Y4 hfin hq
 go_wp2_with fail
 refine HFN.out.mono ?_
 rintro e w5 ⟨rfl,hb5⟩
 unfold Be.repV
 have Y5:=HY4.out.keep (hb5.block _ HY4.out.lt)
 have y0:=Y5.cell (j:=0) (u:=.int .i64 0) rfl
 have y1:=Y5.cell (j:=1) (u:=.bool false) rfl
 have y2:=Y5.cell (j:=2) (u:=.slice none 0 0) rfl
 have yz:=fun j=>Y5.frozen j
 have yl:=Y5.lt
 have HB5:=Lib.hid hb5
 clear hb5 Y5
 go_wp2_with fail
 refine bodyPost_ret (v:=swrV (0,hasT x k.T) 0) (by simp [results,Tryz.results16,go_sem,swrV,y0,y1,y2,yl]) rfl ⟨rfl,?_⟩
 have hTY : ∀ (V : World) (j : Nat) (u : Value),Turn (fun b=>b = w.heap.size + 1) V (fun b=>b = w.heap.size + 1) (V.setCell ⟨w.heap.size + 1,j,none⟩ u):=fun V j u=>turn_one _ V j u
 have hTT:=(hTY w5 0 (.int .i64 0)).trans ((hTY _ 1 (.bool (hasT x k.T))).trans (hTY _ 2 (.slice none 0 0)))
 have hnz : ∀ b,Za Fd4 Gd4 Fk4 s b -> ¬ (b = w.heap.size + 1):=fun b hb e=>by
  subst e
  rcases HTr.out.foot _ hb with h | h
  ·exact HYz.out h
  ·have:=HY3.out.lt
   omega
 have hsw : ShW w5 B (Za Fd4 Gd4 Fk4 s) s d N tn (R ++ [RK.ins cl sq (x,vec)]) (insK k cl sq (x,vec)):=(show ShW w4 B (Za Fd4 Gd4 Fk4 s) s d N tn (R ++ [RK.ins cl sq (x,vec)]) (insK k cl sq (x,vec)) from ⟨_,_,_,_,_,_,_,_,_,_,H4.out,rfl⟩).below HB5.out
 refine ⟨_,hsw.turn hTT hnz (fun b e=>?_),(HT4.out.trans (Turn.below _ HB5.out)).aside hTT (by omega)⟩
 have:=H1.out.b.log.tab.le
 have hz:=HY.out.lt
 subst e
 have hBs : B <= w.heap.size:=HBl.out
 omega
end
end
section
open Go Go.RowKit
def OpenPost (B d N t dim : Nat) (F : Nat -> Prop) (R : List RK) (w : World) (e : Ending) (w' : World) : Prop:=∃ s Z',e = .returned (.tuple #[.pointer (some ⟨s,0,none⟩),.int .i64 0]) /\ ShW w' B Z' s d N t R (doL (ks0 dim) R) /\ Turn F w Z' w'
section
variable {w w' : World} {B : Nat} {F Fd Gd Fk Ft : Nat -> Prop} {s d lp g t p N tn st dim : Nat} {su : List ByteArray} {R : List RK} {k : KS} {Z : Nat -> Prop}
theorem sopen_any (h : DskT w B F d N t (R.map RK.bytes) R.length su) (hN : N <= 4000) (hP : Tabs w B) (h1 : 1 <= dim) (h2 : dim <= 16) (hm : MayL (ks0 dim) R) (hnp : ∀ r ∈ R,∀ m,r ≠ .pts m) (hrec : RecsOf R) (hg : (doL (ks0 dim) R).Good) :
  Calls Tryz.prog 29 #[.pointer (some ⟨d,0,none⟩),.int .i64 (dim : Int)] w (OpenPost B d N t dim F R w):=by
 have HO:=Lib.hid (logt_open h hN)
 have HTab:=Lib.hid h.tab
 have HFar:=Lib.hid h.far
 have HFl:=Lib.hid h.disk.lt
 have HP:=Lib.hid hP
 have HM:=Lib.hid hm
 have HNP:=Lib.hid hnp
 have HRC:=Lib.hid hrec
 have HG:=Lib.hid hg
 have d1 : ¬ (dim : Int) < 1:=by omega
 have d2 : ¬ (16 : Int) < (dim : Int):=by omega
 clear h hP hm hnp hrec hg
 go_enter Tryz.func29,Tryz.ntmps29
 go_wp2_with fail
 refine HO.out.mono ?_
 rintro e w1 ⟨lp,F1,G1,st1,su1,m,rfl,hm1,hm2,hl1,hT1⟩
 have hmm : m = R.length:=by rw [List.length_map] at hm2;omega
 rw [hmm,List.take_of_length_le (by rw [List.length_map];omega)] at hl1
 have HFL:=Lib.hid (logt_flush hl1 (by simp))
 have HT1:=Lib.hid hT1
 have HL1:=Lib.hid hl1
 clear hm1 hm2 hmm hl1 hT1
 go_wp2_with fail
 refine HFL.out.mono ?_
 rintro e w2 ⟨rfl,F2,G2,st2,su2,hl2,hT2⟩
 have HAL:=Lib.hid (logf_all hl2)
 have HT2:=Lib.hid hT2
 have HL2:=Lib.hid hl2
 clear hl2 hT2
 go_wp2_with fail
 refine HAL.out.mono ?_
 rintro e w3 ⟨A3,n3,c3,rfl,hn3,hm3,hR3,hb3⟩
 have HK:=Lib.hid (keptOf_any dim h1 h2 R HM.out HNP.out HRC.out A3 n3 c3 w3 hR3 hm3)
 have HB3:=Lib.hid hb3
 clear hn3 hm3 hR3 hb3
 go_wp2_with fail
 refine HK.out.mono ?_
 rintro e w4 ⟨g,t',p,F4,Ft4,rfl,hk4,hF4,hb4⟩
 have HK4:=Lib.hid hk4
 have HF4:=Lib.hid hF4
 have HB4:=Lib.hid hb4
 clear hk4 hF4 hb4
 go_wp2_with fail
 go_ret2
 obtain ⟨V,hV⟩ : ∃ V,w4.alloc (.cells #[.pointer (some ⟨w4.heap.size,0,none⟩),.pointer (some ⟨lp,0,none⟩),.pointer (some ⟨g,0,none⟩)] 75) = V:=⟨_,rfl⟩
 have hrV : Row V w4.heap.size 75 (shc w4.heap.size lp g):=by rw [<- hV];exact Row.new w4 _ _
 have hbV : Below w4.heap.size w4 V:=by rw [<- hV];exact (Below.refl _ _).alloc (Nat.le_refl _) _
 rw [hV]
 have hl2:=HL2.out
 rw [List.length_map] at hl2
 have hb24 : Below w2.heap.size w2 V:=(HB3.out.trans (HB4.out.mono HB3.out.size)).trans (hbV.mono (Nat.le_trans HB3.out.size HB4.out.size))
 have hlV:=hl2.below hb24
 have hs3:=HB3.out.size
 have hs4:=HB4.out.size
 have hlt:=hl2.lt
 have hBw:=HTab.out.le
 have hs1:=HT1.out.size
 have hs2:=HT2.out.size
 have hT12:=(HT1.out.trans HT2.out).trans (Turn.below (Un F2 G2) hb24)
 have hBB : Below B w V:=hT12.down HFar.out hBw
 have hdm : (doL (ks0 dim) R).dm = dim:=doL_dm R (ks0 dim)
 refine ⟨w4.heap.size,Za F2 G2 F4 w4.heap.size,rfl,⟨F2,G2,F4,Ft4,lp,g,t',p,st2,su2,⟨⟨hlV,hrV,fun hF=>?_,by omega,HP.out.on hBB⟩,HK4.out.below hbV,fun x hx hZ=>?_,fun x hx=>?_,HG.out,by rw [hdm];exact HM.out,by rw [hdm]⟩,rfl⟩,?_⟩
 ·have:=hlt _ hF
  omega
 ·have h1:=HF4.out x hx
  have h2:=HK4.out.lt x hx
  rcases hZ with hZ | hZ
  ·have:=hlt x hZ
   omega
  ·omega
 ·have h1:=HF4.out x hx
  omega
 ·refine hT12.more fun b hb=>?_
  rcases hb with (hb | hb) | hb
  ·exact .inl hb
  ·exact .inr (by omega)
  ·have:=HF4.out b hb
   exact .inr (by omega)
theorem ask_ok (h : ShR w B Fd Gd Fk Ft s d lp g t p N tn st su R k) (hst : k.st = 2) {A : Option Addr} {n c C kk : Nat} {vec : List Int} (hR : Reads w C 1 A n (ints vec)) (hC : C <= w.heap.size) (hn : n <= maxLen) (lim : Int) (hk : ck vec k.dm = 0) (hk1 : 1 <= kk) (hk2 : kk <= 64) :
  Calls Tryz.prog 31 #[.pointer (some ⟨s,0,none⟩),.slice A n c,.int .i64 (kk : Int),.int .i64 lim] w (TopPost k.T vec kk lim w):=by
 have s2 : w.cell? ⟨s,2,none⟩ = some (.pointer (some ⟨g,0,none⟩)):=h.b.row.cell rfl
 have hsl:=h.b.row.lt
 have c5:=h.kept.c5
 have hgl:=h.kept.gl
 have HG:=Lib.hid (sgiven_any h)
 have HS:=Lib.hid (sis_any h 2)
 rw [show (k.st == 2) = true by simp [hst]] at HS
 have HT:=Lib.hid (t_top h.kept.tree (c:=c) hR hC hn lim hk hk1 hk2)
 clear h hst
 go_enter Tryz.func31,Tryz.ntmps31
 go_wp2_with (first | (with_reducible refine HG.out.mono ?_;rintro e w1 ⟨rfl,rfl⟩) | (with_reducible refine HS.out.mono ?_;rintro e w1 ⟨rfl,rfl⟩))
 refine HT.out.mono ?_
 rintro e w2 ⟨A',m',rfl,hr,hm,hb⟩
 go_wp2_with fail
 go_ret2
 exact ⟨A',m',rfl,hr,hm,hb⟩
end
end
end Go.Proofs.YtegjjhjgfkcbhaaGreatDoor
