/- EFour ETake EOf. Conditions: as each part says. -/
import Derived.Test.YtegjjhjgfkcbhaaGreatDoorQ08
set_option linter.unusedVariables false
set_option linter.unusedSimpArgs false
set_option maxRecDepth 100000
set_option maxHeartbeats 16000000
namespace Go.Proofs.YtegjjhjgfkcbhaaGreatDoor
namespace Be
section
open Go Go.RowKit
instance : Inhabited T:=⟨.mk 0 0 .empty []⟩
def arrC (l : List T) (k : Nat) : List Value:=(l.take k).map (fun t=>.int .i64 t.n) ++ List.replicate (4 - k) (.int .i64 0)
theorem arrC_len {l : List T} (hl : l.length = 4) {k : Nat} (hk : k <= 4) : (arrC l k).length = 4:=by
 unfold arrC
 rw [List.length_append,List.length_map,List.length_take,List.length_replicate]
 omega
theorem arrC_one (l : List T) (k : Nat) : ∀ v ∈ arrC l k,v.oneCell' = true:=by
 intro v hv
 unfold arrC at hv
 rcases List.mem_append.1 hv with hv | hv
 ·obtain ⟨x,_,rfl⟩:=List.mem_map.1 hv
  rfl
 ·rw [List.eq_of_mem_replicate hv]
  rfl
theorem arrC_at {l : List T} (hl : l.length = 4) {k : Nat} (hk : k < 4) : (arrC l k)[k]? = some (.int .i64 0):=by
 unfold arrC
 rw [List.getElem?_append_right (by simp;omega),List.length_map,List.length_take,Nat.min_eq_left (by omega),Nat.sub_self,List.getElem?_replicate,if_pos (by omega)]
theorem arrC_set {l : List T} (hl : l.length = 4) {k : Nat} (hk : k < 4) {n : Int} (hn : l[k]!.n = n) : (arrC l k).set k (.int .i64 n) = arrC l (k + 1):=by
 unfold arrC
 have h1 : ((l.take k).map (fun t : T=>Value.int .i64 t.n)).length = k:=by rw [List.length_map,List.length_take];omega
 rw [List.set_append_right _ _ (by omega),h1,Nat.sub_self,show 4 - k = (4 - (k + 1)) + 1 by omega,List.replicate_succ,List.set_cons_zero]
 rw [List.take_succ_eq_append_getElem (by omega),List.map_append,List.append_assoc]
 have : l[k]! = l[k]:=by
  rw [List.getElem!_eq_getElem?_getD,List.getElem?_eq_getElem (by omega)]
  rfl
 rw [this] at hn
 simp [hn]
section
variable {ops : Array Oper} {rest : List Oper} {o : Oper} {a : Act} {Q : Exit -> Act -> World -> Prop} {W : World}
theorem ld_arr {b : Nat} {xs : List Value} (hR : Row W b 315 xs) (hl : xs.length = 4) (hgd : o.guard = none) (x : Operand) (ho : o.op = .load 315 x) (hx : a.eval x = .pointer (some ⟨b,0,none⟩))
  (h : wpList Tryz.prog ops Q rest (a.put o.dst (.agg xs.toArray)) W) : wpList Tryz.prog ops Q (o :: rest) a W :=
 wpList_load_mid hgd 315 x ho b 0 hx xs _ (fun j v hv=>by rw [Nat.zero_add];exact hR.cell hv) Tryz.underlying315 rfl (by rw [hl];kernel_rfl) h
theorem st_arr {b : Nat} {xs ys : List Value} (hR : Row W b 315 xs) (hl : xs.length = 4) (hl' : ys.length = 4) (h1 : ∀ v ∈ ys,v.oneCell' = true) (hgd : o.guard = none) (x y : Operand) (ho : o.op = .store 315 x y) (hx : a.eval x = .pointer (some ⟨b,0,none⟩)) (hy : a.eval y = .agg ys.toArray)
  (h : ∀ W',Row W' b 315 ys -> W'.heap.size = W.heap.size -> W.grownBy W' (some b) -> wpList Tryz.prog ops Q rest (a.put o.dst undef) W') : wpList Tryz.prog ops Q (o :: rest) a W:=by
 refine wpList_plain hgd fun K hK=>?_
 have hst:=run_storeVar_row (P:=Tryz.prog) W b 315 315 xs.toArray ys.toArray hR (by simp only [List.size_toArray,hl'];kernel_rfl) (by simp [hl,hl']) (all_oneCell_toArray h1)
 obtain ⟨f1,f2,f3⟩:=setRow_facts hR ys
 unfold Oper.wp execOp
 simp only [ho,hx,hy,Instr.storeAt,Instr.sureAddr,Sem.run_bind,Sem.run_pure,Result.andThen_ok,hst]
 exact hK _ _ (h _ f1 f2 f3)
end
theorem res_arr {fn : Func} {p u : Tmp} (hf : fn.results = #[.cell p 315,.tmp u]) (tmps : Array Value) {w : World} {b : Nat} {xs : List Value} (h : Row w b 315 xs) (hl : xs.length = 4) (hp : tmps.getD p undef = .pointer (some ⟨b,0,none⟩)) {z : Value} (hz : tmps.getD u undef = z) :
  (results fn tmps).run Tryz.prog w = .ok (.tuple #[.agg xs.toArray,z]) w:=by
 have:=run_loadVar_mid w b 0 315 xs _ (fun j v hv=>by rw [Nat.zero_add];exact h.cell hv) Tryz.underlying315 rfl (by rw [hl];kernel_rfl)
 rw [results_cell_tmp hf,hp,hz]
 simp [asAddr,Result.andThen,this]
def FourPost (t : T) (w : World) (e : Ending) (w' : World) : Prop:=∃ c s er b ok,e = .returned (.tuple #[.agg #[.int .i64 c,.int .i64 s,.int .i64 er,.int .i64 b],.bool ok]) /\ (four? t = if ok then some (c,s,er,b) else none) /\ Below w.heap.size w w'
structure FRel (l : List T) (w wr : World) (k : Nat) : Prop where
 bel : Below w.heap.size w wr
 res : Row wr (w.heap.size + 1) 315 (arrC l k)
 kinds : ∀ j,j < k -> l[j]!.k = 1
theorem arr_four {xs : List Value} (h : xs.length = 4) (hi : ∀ v ∈ xs,∃ n,v = .int .i64 n) : ∃ c s e b,xs = [.int .i64 c,.int .i64 s,.int .i64 e,.int .i64 b]:=by
 match xs,h with
 | [x0,x1,x2,x3],_ =>
  obtain ⟨c,rfl⟩:=hi x0 (by simp)
  obtain ⟨s,rfl⟩:=hi x1 (by simp)
  obtain ⟨e,rfl⟩:=hi x2 (by simp)
  obtain ⟨b,rfl⟩:=hi x3 (by simp)
  exact ⟨c,s,e,b,rfl⟩
theorem arrC_ints (l : List T) (k : Nat) : ∀ v ∈ arrC l k,∃ n,v = .int .i64 n:=by
 intro v hv
 unfold arrC at hv
 rcases List.mem_append.1 hv with hv | hv
 ·obtain ⟨x,_,rfl⟩:=List.mem_map.1 hv
  exact ⟨_,rfl⟩
 ·exact ⟨0,List.eq_of_mem_replicate hv⟩
theorem four_no {t : T} {j : Nat} (hl : t.l.length = 4) (hj : j < 4) (h : t.l[j]!.k ≠ 1) : four? t = none:=by
 obtain ⟨k,n,s,l⟩:=t
 simp only [T.l] at hl h
 match l,hl with
 | [a,b,c,d],_ =>
  simp only [four?,T.l]
  rw [if_neg]
  rintro ⟨h1,h2,h3,h4⟩
  obtain rfl | rfl | rfl | rfl : j = 0 \/ j = 1 \/ j = 2 \/ j = 3:=by omega
  ·exact h h1
  ·exact h h2
  ·exact h h3
  ·exact h h4
theorem four_len {t : T} (h : t.l.length ≠ 4) : four? t = none:=by
 obtain ⟨k,n,s,l⟩:=t
 simp only [T.l] at h
 unfold four?
 simp only [T.l]
 split
 ·simp at h
 ·rfl
theorem four_yes {t : T} (hl : t.l.length = 4) (h : ∀ j,j < 4 -> t.l[j]!.k = 1) : ∃ c s e b,four? t = some (c,s,e,b) /\ arrC t.l 4 = [.int .i64 c,.int .i64 s,.int .i64 e,.int .i64 b]:=by
 obtain ⟨k,n,s,l⟩:=t
 simp only [T.l] at hl h
 match l,hl with
 | [a,b,c,d],_ =>
  refine ⟨a.n,b.n,c.n,d.n,?_,rfl⟩
  simp only [four?,T.l]
  rw [if_pos ⟨h 0 (by omega),h 1 (by omega),h 2 (by omega),h 3 (by omega)⟩]
theorem four_any (t : T) (v : Value) (ok : Nat -> Prop) (w : World) (hRA : RdA ok w t v) : Calls Tryz.prog 242 #[v] w (FourPost t w):=by
 obtain ⟨A,c,xs,rfl,hsz,hlc,hcm,hr,hrl⟩:=hRA
 have hB : ∀ (A B : Obj),Below w.heap.size w ((w.alloc A).alloc B):=fun A B=>((Below.refl _ _).alloc (Nat.le_refl _) _).alloc (by simp) _
 have R0 : Row ((w.alloc (.cells #[.int .i64 t.k,.int .i64 t.n,.string t.s,.slice A t.l.length c] 202)).alloc (.cells #[.int .i64 0,.int .i64 0,.int .i64 0,.int .i64 0] 315)) (w.heap.size + 1) 315 (arrC t.l 0):=by
  have:=Row.new (w.alloc (.cells #[.int .i64 t.k,.int .i64 t.n,.string t.s,.slice A t.l.length c] 202)) 315 (arrC t.l 0)
  rw [show (w.alloc (.cells #[.int .i64 t.k,.int .i64 t.n,.string t.s,.slice A t.l.length c] 202)).heap.size = w.heap.size + 1 by simp] at this
  exact this
 by_cases h4 : t.l.length = 4
 ·have hne : ¬ ((t.l.length : Int) ≠ 4):=by omega
  have HR:=Lib.hid hr
  have HRL:=Lib.hid hrl
  have H4:=Lib.hid h4
  have hF0:=Lib.hid (show FRel t.l w _ 0 from ⟨hB _ _,R0,fun j hj=>absurd hj (by omega)⟩)
  clear hr hrl hlc hcm R0
  rw [h4]
  rw [h4] at hF0
  clear h4 hne
  go_enter Tryz.func242,Tryz.ntmps242
  go_wp2_with fail
  go_loopw [14] (fun vi wr=>∃ k : Nat,vi = .int .i64 (k : Int) /\ k <= 4 /\ FRel t.l w wr k) (fun vi _=>4 - (intOf vi).toNat)
  case atStart=>exact ⟨0,rfl,by omega,hF0.out⟩
  case round =>
   obtain ⟨k,rfl,hk,hF⟩:=hrel
   by_cases hk4 : k < 4
   ·have hkz : (k : Int) < 4:=by omega
    have h4:=H4.out
    obtain ⟨b,o,A',c',rfl,_,hb,hfz,hRA',e0,e1,e2,e3⟩:=elem_at HR.out HRL.out (show k < t.l.length by omega)
    have hel : t.l[k]! = t.l[k]'(by omega):=by
     rw [List.getElem!_eq_getElem?_getD,List.getElem?_eq_getElem (by omega)]
     rfl
    generalize t.l[k]'(by omega) = el at *
    obtain ⟨ek,en,es,ell⟩:=el
    simp only [T.k,T.n,T.s,T.l] at e0 e1 e2 e3 hRA'
    have d0 : wr.cell? ⟨b,o + k * 4,none⟩ = some (.int .i64 ek):=(hF.bel.cell (p:=⟨b,o + k * 4,none⟩) hb).trans e0
    have d1 : wr.cell? ⟨b,o + k * 4 + 1,none⟩ = some (.int .i64 en):=(hF.bel.cell (p:=⟨b,o + k * 4 + 1,none⟩) hb).trans e1
    have d2 : wr.cell? ⟨b,o + k * 4 + 2,none⟩ = some (.string es):=(hF.bel.cell (p:=⟨b,o + k * 4 + 2,none⟩) hb).trans e2
    have d3 : wr.cell? ⟨b,o + k * 4 + 3,none⟩ = some (.slice A' ell.length c'):=(hF.bel.cell (p:=⟨b,o + k * 4 + 3,none⟩) hb).trans e3
    have hzr : wr.cell? ⟨w.heap.size + 1,k,none⟩ = some (.int .i64 0):=hF.res.cell (arrC_at h4 hk4)
    have hfr : wr.frozen? ⟨w.heap.size + 1,k,none⟩ = false:=hF.res.frozen k
    have hrl2 : w.heap.size + 1 < wr.heap.size:=hF.res.lt
    have HF:=Lib.hid hF
    have HEL:=Lib.hid hel
    clear hF hel e0 e1 e2 e3 hRA' h4
    by_cases hk1 : ek = 1
    ·subst hk1
     go_wp2_with fail
     have hset:=arrC_set (l:=t.l) H4.out hk4 (n:=en) (by rw [HEL.out];rfl)
     refine ⟨⟨k + 1,by go_num,by omega,?_⟩,by simp [intOf];omega⟩
     refine ⟨?_,?_,fun j hj=>?_⟩
     ·exact (HF.out.bel.setCell (by simp) _).alloc (by simp;exact HF.out.bel.size) _
     ·have h3:=HF.out.res.set k (.int .i64 en)
      rw [hset] at h3
      exact h3.al _
     ·by_cases hj2 : j < k
      ·exact HF.out.kinds j hj2
      ·obtain rfl : j = k:=by omega
       rw [HEL.out]
       rfl
    ·have hR1:=HF.out.res.al (.cells #[.int .i64 ek,.int .i64 en,.string es,.slice A' ell.length c'] 202)
     have hal:=arrC_len (l:=t.l) H4.out hk
     have hone:=arrC_one t.l k
     obtain ⟨n0,n1,n2,n3,hxs⟩:=arr_four hal (arrC_ints t.l k)
     have HX:=Lib.hid hxs
     have HB1:=Lib.hid (HF.out.bel.alloc HF.out.bel.size (.cells #[.int .i64 ek,.int .i64 en,.string es,.slice A' ell.length c'] 202))
     generalize arrC t.l k = xs0 at *
     have HR1:=Lib.hid hR1
     have HONE:=Lib.hid hone
     have HAL:=Lib.hid hal
     clear hxs hzr hfr hR1 hone hal
     go_wp2_with (first | (refine ld_arr HR1.out HAL.out rfl _ rfl rfl ?_) | (refine st_arr HR1.out HAL.out HAL.out HONE.out rfl _ _ rfl rfl rfl ?_;intro W' f1 f2 f3))
     refine bodyPost_ret (res_arr Tryz.results242 _ f1 HAL.out rfl rfl) rfl ?_
     rw [HX.out]
     exact ⟨n0,n1,n2,n3,false,rfl,four_no H4.out hk4 (by rw [HEL.out];exact hk1),HB1.out.grown f3 HB1.out.size (fun g hg=>by injection hg with hg;omega)⟩
   ·obtain rfl : k = 4:=by omega
    obtain ⟨c0,s0,e0,b0,hfo,hxs⟩:=four_yes H4.out hF.kinds
    have hal:=arrC_len (l:=t.l) H4.out hk
    have hone:=arrC_one t.l 4
    have hR1:=hF.res
    have hbel:=hF.bel
    rw [hxs] at hal hone hR1
    have HR1:=Lib.hid hR1
    have HONE:=Lib.hid hone
    have HFO:=Lib.hid hfo
    clear hxs hfo hR1 hone hF
    go_wp2_with (first | (refine ld_arr HR1.out rfl rfl _ rfl rfl ?_) | (refine st_arr HR1.out rfl rfl HONE.out rfl _ _ rfl rfl rfl ?_;intro W' f1 f2 f3))
    refine bodyPost_ret (res_arr Tryz.results242 _ f1 rfl rfl rfl) rfl ?_
    exact ⟨c0,s0,e0,b0,true,rfl,HFO.out,hbel.grown f3 hbel.size (fun g hg=>by injection hg with hg;omega)⟩
 ·have hne : ¬ (t.l.length : Int) = 4:=by omega
  have HF:=Lib.hid (four_len h4)
  have HB:=Lib.hid hB
  have R1:=Lib.hid (show Row _ _ _ [.int .i64 0,.int .i64 0,.int .i64 0,.int .i64 0] from R0)
  clear hr hrl R0 h4 hB
  generalize t.l.length = ln at *
  go_enter Tryz.func242,Tryz.ntmps242
  go_wp2_with fail
  exact bodyPost_ret (res_arr Tryz.results242 _ R1.out rfl rfl rfl) rfl ⟨0,0,0,0,false,rfl,HF.out,HB.out _ _⟩
end
end Be
namespace Be
section
open Go Go.RowKit
def takeM (q : List E) (t : T) : Option (Int × List E):=match four? t with
 | none=>none
 | some (c,s,e,b)=>if (b = 0 \/ b = 1) /\ (putM q c s e (decide (b = 1))).2 = 0 then some (c,(putM q c s e (decide (b = 1))).1) else none
theorem ofRows_step (before : Int) (q : List E) (r : T) (rs : List T) : ofRows before q (r :: rs) = match takeM q r with
  | none=>none
  | some (c,q')=>if before < c then ofRows c q' rs else none:=by
 unfold takeM
 rw [ofRows]
 cases four? r with
 | none=>rfl
 | some p =>
  obtain ⟨c,s,e,b⟩:=p
  simp only
  by_cases h : (b = 0 \/ b = 1) /\ (putM q c s e (decide (b = 1))).2 = 0
  ·rw [if_pos h]
   simp only
   by_cases h2 : before < c
   ·rw [if_pos ⟨h.1,h.2,h2⟩,if_pos h2]
   ·rw [if_neg (fun h3=>h2 h3.2.2),if_neg h2]
  ·rw [if_neg h]
   simp only
   rw [if_neg (fun h3=>h ⟨h3.1,h3.2.1⟩)]
def DTakePost (q : List E) (t : T) (p : Nat) (w : World) (e : Ending) (w' : World) : Prop:=∃ cl okb q',e = .returned (.tuple #[.int .i64 cl,.bool okb]) /\ TabAt w' p q' /\ w.grownBy w' (some p) /\ takeM q t = if okb then some (cl,q') else none
theorem dtake_any {w : World} {p : Nat} {q : List E} (h : TabAt w p q) (t : T) (v : Value) (ok : Nat -> Prop) (hRA : RdA ok w t v) : Calls Tryz.prog 221 #[.pointer (some ⟨p,0,none⟩),v] w (DTakePost q t p w):=by
 have hk:=hRA
 obtain ⟨A,c,xs,rfl,_⟩:=hRA
 have hB0 : Below w.heap.size w (w.alloc (.cells #[.int .i64 t.k,.int .i64 t.n,.string t.s,.slice A t.l.length c] 202)):=(Below.refl _ _).alloc (Nat.le_refl _) _
 have hfour:=four_any t _ (fun b=>ok b /\ b < w.heap.size) _ ((hk.mono (ok':=fun b=>ok b /\ b < w.heap.size) (fun b hb hl=>⟨hb,hl⟩)).keep (Keeps.of_below hB0 (fun b hb _=>hb.2)))
 have HH:=Lib.hid h
 have HB0:=Lib.hid hB0
 clear h hk hB0
 go_enter Tryz.func221,Tryz.ntmps221
 go_wp2_with fail
 refine hfour.mono ?_
 rintro e w1 ⟨cl,s,er,b,okb,rfl,hfo,hb1⟩
 have hb01 : Below w.heap.size w w1:=HB0.out.trans (hb1.mono (by simp))
 have hB2 : Below w.heap.size w (w1.alloc (.cells #[.int .i64 cl,.int .i64 s,.int .i64 er,.int .i64 b] 315)):=hb01.alloc hb01.size _
 have hT2:=HH.out.on hB2
 have hR2:=Row.new w1 315 [.int .i64 cl,.int .i64 s,.int .i64 er,.int .i64 b]
 have HFO:=Lib.hid hfo
 have HB2:=Lib.hid hB2
 clear hfour hfo hB2
 rcases okb with _ | _
 ·go_wp2_with fail
  go_ret2
  exact ⟨0,false,q,rfl,hT2,grown_below HB2.out _,by unfold takeM;rw [HFO.out];rfl⟩
 ·by_cases hb : b = 0 \/ b = 1
  ·have hput:=put_any hT2 cl s er (decide (b = 1)) (.slice none 0 0)
   have HTK : takeM q t = if (putM q cl s er (decide (b = 1))).2 = 0 then some (cl,(putM q cl s er (decide (b = 1))).1) else none:=by
    unfold takeM
    rw [HFO.out]
    simp only [if_true]
    by_cases h2 : (putM q cl s er (decide (b = 1))).2 = 0
    ·rw [if_pos ⟨hb,h2⟩,if_pos h2]
    ·rw [if_neg (fun h3=>h2 h3.2),if_neg h2]
   have HK:=Lib.hid HTK
   have HR2:=Lib.hid hR2
   have hsz1 : w.heap.size <= w1.heap.size:=hb01.size
   have HSZ:=Lib.hid hsz1
   have hpl:=HH.out.row.lt
   clear HTK hT2 hR2 hb01 hsz1
   generalize putM q cl s er (decide (b = 1)) = pr at *
   obtain ⟨q',z⟩:=pr
   simp only at HK
   rcases hb with rfl | rfl
   all_goals (
    go_wp2_with fail
    refine hput.mono ?_
    rintro e w2 ⟨rfl,ht2,hg2⟩
    have hne : w1.heap.size ≠ p:=by have:=HSZ.out;omega
    have hR3:=HR2.out.keep (grown_keep hg2 (by simp) hne)
    have k0 : w2.cell? ⟨w1.heap.size,0,none⟩ = some (.int .i64 cl):=hR3.cell rfl
    have hG:=grown_then (grown_below HB2.out (some p)) hg2
    have HT2:=Lib.hid ht2
    have HG:=Lib.hid hG
    clear hput hG hR3 hg2 ht2
    go_wp2_with fail
    go_ret2
    refine ⟨cl,decide (z = 0),q',?_,HT2.out,HG.out,?_⟩
    ·rfl
    ·exact HK.out.trans (by simp))
  ·have hb0 : b ≠ 0:=fun h=>hb (.inl h)
   have hb1' : b ≠ 1:=fun h=>hb (.inr h)
   have hd0 : (b != 0) = true:=by simpa using hb0
   have hd1 : (b != 1) = true:=by simpa using hb1'
   clear hR2
   go_wp2_with fail
   go_ret2
   exact ⟨0,false,q,rfl,hT2,grown_below HB2.out _,by unfold takeM;rw [HFO.out];simp only [if_true];rw [if_neg (fun h3=>hb h3.1)];rfl⟩
end
end Be
namespace Be
section
open Go Go.RowKit
def OfPost (r : Option (List E)) (w : World) (e : Ending) (w' : World) : Prop:=match r with
 | some q=>∃ p,e = .returned (.tuple #[.pointer (some ⟨p,0,none⟩),.int .i64 0]) /\ TabAt w' p q /\ w.heap.size <= p /\ Below w.heap.size w w'
 | none=>e = .returned (.tuple #[.pointer none,.int .i64 20]) /\ Below w.heap.size w w'
theorem OfPost.no {r : Option (List E)} {w w' : World} {e : Ending} (h : r = none) (he : e = .returned (.tuple #[.pointer none,.int .i64 20])) (hb : Below w.heap.size w w') : OfPost r w e w':=by
 subst h
 exact ⟨he,hb⟩
theorem OfPost.yes {r : Option (List E)} {q : List E} {w w' : World} {e : Ending} {p : Nat} (h : r = some q) (he : e = .returned (.tuple #[.pointer (some ⟨p,0,none⟩),.int .i64 0])) (ht : TabAt w' p q) (hp : w.heap.size <= p) (hb : Below w.heap.size w w') : OfPost r w e w':=by
 subst h
 exact ⟨p,he,ht,hp,hb⟩
theorem only_err {bs : List UInt8} {x : Int} (h : onlyRes bs = .error x) : x ≠ 0:=by
 unfold onlyRes at h
 cases ht : takeRes bs with
 | error y =>
  rw [ht] at h
  simp only [Except.error.injEq] at h
  subst h
  have:=takeRes_errs ht
  omega
 | ok p =>
  obtain ⟨t,n⟩:=p
  rw [ht] at h
  simp only at h
  split at h
  ·simp only [Except.error.injEq] at h
   omega
  ·cases h
theorem only_len {bs : List UInt8} {t : T} (h : onlyRes bs = .ok t) : bs.length <= 65536:=by
 unfold onlyRes at h
 cases ht : takeRes bs with
 | error y=>rw [ht] at h;cases h
 | ok p =>
  obtain ⟨t',n⟩:=p
  rw [ht] at h
  simp only at h
  obtain ⟨_,h2⟩:=takeRes_ok ht
  split at h
  ·cases h
  ·omega
theorem ofM_long {bs : List UInt8} (h : 65536 < bs.length) : ofM bs = none:=by
 unfold ofM
 cases ho : onlyRes bs with
 | error x=>rfl
 | ok t =>
  have:=only_len ho
  omega
structure ORel (w wA wr : World) (l : List T) (p k : Nat) (bz : Int) (q : List E) (r : Option (List E)) : Prop where
 tab : TabAt wr p q
 grown : wA.grownBy wr (some p)
 rest : ofRows bz q (l.drop k) = r
def contM (bz : Int) (rs : List T) : Option (Int × List E) -> Option (List E)
 | none=>none
 | some (c,q')=>if bz < c then ofRows c q' rs else none
theorem ofRows_cont (before : Int) (q : List E) (r : T) (rs : List T) : ofRows before q (r :: rs) = contM before rs (takeM q r):=by
 rw [ofRows_step]
 cases takeM q r <;> rfl
theorem of_any (s : ByteArray) (hs : s.size <= 1000000000) (w : World) : Calls Tryz.prog 204 #[.string s] w (OfPost (ofM s.data.toList) w):=by
 by_cases hl : 65536 < s.size
 ·have hlz : (65536 : Int) < (s.size : Int):=by omega
  have hof : ofM s.data.toList = none:=ofM_long (by simpa using hl)
  rw [hof]
  clear hof
  go_enter Tryz.func204,Tryz.ntmps204
  go_wp2_with fail
  go_ret2
  exact ⟨rfl,Below.refl _ _⟩
 ·have hlz : ¬ (65536 : Int) < (s.size : Int):=by omega
  have honly:=only_any s hs w
  unfold ofM
  cases ho : onlyRes s.data.toList with
  | error x =>
   rw [ho] at honly
   have hx:=only_err ho
   have hxb : (x != 0) = true:=by simpa using hx
   clear ho
   go_enter Tryz.func204,Tryz.ntmps204
   go_wp2_with fail
   refine honly.mono ?_
   rintro e w1 ⟨rfl,hb1⟩
   clear honly
   simp only [zeroA]
   go_wp2_with fail
   go_ret2
   exact ⟨rfl,hb1.alloc hb1.size _⟩
  | ok t =>
   rw [ho] at honly
   simp only
   clear ho
   obtain ⟨tk,tn,ts,tl⟩:=t
   by_cases hk3 : (T.mk tk tn ts tl).k = 3
   ·rw [if_pos hk3]
    have hk4 : tk = 3:=hk3
    clear hk3
    subst hk4
    show Calls Tryz.prog 204 #[.string s] w (OfPost (ofRows (-1) q0 tl) w)
    obtain ⟨R,hR⟩ : ∃ R,ofRows (-1) q0 tl = R:=⟨_,rfl⟩
    rw [hR]
    have HR:=Lib.hid hR
    clear hR
    go_enter Tryz.func204,Tryz.ntmps204
    go_wp2_with fail
    refine honly.mono ?_
    rintro e w1 ⟨v,rfl,⟨A,c,xs,rfl,h2,hlc,hcm,hr,hrl⟩,hb1⟩
    simp only [T.k,T.n,T.s,T.l] at h2 hlc hcm hr hrl ⊢
    clear honly h2
    have hb1a : Below w.heap.size w (w1.alloc (.cells #[.int .i64 3,.int .i64 tn,.string ts,.slice A tl.length c] 202)):=hb1.alloc hb1.size _
    have hnew:=new_any (w1.alloc (.cells #[.int .i64 3,.int .i64 tn,.string ts,.slice A tl.length c] 202))
    have hV3:=Row.new w1 202 [.int .i64 3,.int .i64 tn,.string ts,.slice A tl.length c]
    have hKp : ∀ w' : World,Below w1.heap.size w1 w' -> ReadsP (fun b=>w.heap.size <= b /\ b < w1.heap.size) w' 4 A tl.length xs /\ RdL (fun b=>w.heap.size <= b /\ b < w1.heap.size) w' tl xs:=fun w' hb=>by
     have k0 : Keeps (fun b=>w.heap.size <= b /\ b < w1.heap.size) w1 w':=Keeps.of_below hb (fun b hb _=>hb.2)
     exact ⟨(hr.mono (fun b hb hl=>⟨hb,hl⟩)).keep k0,RdL.keep k0 _ _ (RdL.mono (fun b hb hl=>⟨hb,hl⟩) _ _ hrl)⟩
    have hlm : tl.length <= maxLen:=by omega
    have HKP:=Lib.hid hKp
    have hln : (tl.length : Int) <= 9223372036854775807:=by unfold maxLen at hlm;omega
    clear hr hrl hlc hcm hKp hlm
    obtain ⟨n,hn⟩ : ∃ n,tl.length = n:=⟨_,rfl⟩
    have HN:=Lib.hid hn
    rw [hn] at hnew hV3 hb1a hln
    rw [hn]
    clear hn
    go_wp2_with fail
    refine hnew.mono ?_
    rintro e w2 ⟨p,rfl,ht2,hp2,hb2⟩
    have c3 : w2.cell? ⟨w1.heap.size,3,none⟩ = some (.slice A n c):=(hb2.cell (p:=⟨w1.heap.size,3,none⟩) (by simp)).trans (hV3.cell rfl)
    have hp3 : w1.heap.size + 1 <= p:=by simpa using hp2
    have hb12 : Below w1.heap.size w1 w2:=((Below.refl _ w1).alloc (Nat.le_refl _) _).trans (hb2.mono (by simp))
    have hbw2 : Below w.heap.size w w2:=hb1.trans (hb12.mono hb1.size)
    have hpl:=ht2.row.lt
    have hO0 : ORel w w2 w2 tl p 0 (-1) q0 R:=⟨ht2,grown_refl _ _,by rw [List.drop_zero];exact HR.out⟩
    have HO0:=Lib.hid hO0
    clear hnew hV3 hb1a ht2 hp2 hb2 hO0
    go_wp2_with fail
    go_loopw [7,31] (fun vb vi wr=>∃ (k : Nat) (bz : Int) (q : List E),vb = .int .i64 bz /\ vi = .int .i64 (k : Int) /\ k <= n /\ ORel w w2 wr tl p k bz q R) (fun _ vi _=>n - (intOf vi).toNat)
    case atStart=>exact ⟨0,-1,q0,rfl,rfl,by omega,HO0.out⟩
    case round =>
     obtain ⟨k,bz,q,rfl,rfl,hk,hO⟩:=hrel
     by_cases hkn : k < n
     ·have hkz : (k : Int) < (n : Int):=by omega
      have hkl : k < tl.length:=by have:=HN.out;omega
      obtain ⟨hrd,hrl⟩:=HKP.out w2 hb12
      obtain ⟨b,o,A',c',hA,hbb,hblt,hbf,hRA',e0,e1,e2,e3⟩:=elem_at hrd hrl hkl
      subst hA
      have hbp : b ≠ p:=by omega
      have hsame:=fun j : Nat=>World.cell?_of_block (w:=w2) (w':=wr) (a:=⟨b,o + k * 4 + j,none⟩) (grown_keep hO.grown hblt hbp)
      have hkeep : Keeps (fun b=>w.heap.size <= b /\ b < w1.heap.size) w2 wr:=Keeps.of_grown hO.grown (fun b hb e=>by injection e with e;omega)
      have hRAw:=hRA'.keep hkeep
      have hrest : R = contM bz (tl.drop (k + 1)) (takeM q tl[k]):=by
       rw [<- hO.rest,List.drop_eq_getElem_cons hkl,ofRows_cont]
      generalize tl[k] = el at *
      have d0:=(hsame 0).trans e0
      have d1:=(hsame 1).trans e1
      have d2:=(hsame 2).trans e2
      have d3:=(hsame 3).trans e3
      obtain ⟨ek,en,es,ell⟩:=el
      simp only [T.k,T.n,T.s,T.l] at d0 d1 d2 d3 hRAw
      rw [Nat.add_zero] at d0
      have hbx : Below wr.heap.size wr (wr.alloc (.cells #[.int .i64 ek,.int .i64 en,.string es,.slice A' ell.length c'] 202)):=(Below.refl _ _).alloc (Nat.le_refl _) _
      have hRAx:=hRAw.keep (Keeps.of_below (ok:=fun b=>w.heap.size <= b /\ b < w1.heap.size) hbx (fun b hb hl=>hl))
      have htk:=dtake_any (hO.tab.on hbx) (.mk ek en es ell) _ _ hRAx
      have hwr:=hO.grown.size
      have HG:=Lib.hid hO.grown
      have HREST:=Lib.hid hrest
      have HBX:=Lib.hid hbx
      clear hRA' hRAw hRAx e0 e1 e2 e3 hsame hkeep hrd hrl hrest hbx hO
      go_wp2_with fail
      refine htk.mono ?_
      rintro e w5 ⟨cl,okb,q',rfl,ht5,hg5,htm⟩
      have hG5 : w2.grownBy w5 (some p):=grown_then (grown_then HG.out (grown_below HBX.out (some p))) hg5
      have hb5 : Below w.heap.size w w5:=hbw2.grown hG5 hbw2.size (fun g hg=>by injection hg with hg;subst hg;have:=hb1.size;omega)
      have HTM:=Lib.hid htm
      have HT5:=Lib.hid ht5
      have HG5:=Lib.hid hG5
      have HB5:=Lib.hid hb5
      clear htk htm ht5 hG5 hg5 hb5
      rcases okb with _ | _
      ·have hR:=HREST.out
       rw [HTM.out] at hR
       simp only [contM] at hR
       have HRN:=Lib.hid hR
       clear hR
       go_wp2_with fail
       go_ret2
       exact OfPost.no HRN.out rfl HB5.out
      ·have hR:=HREST.out
       rw [HTM.out] at hR
       simp only [if_true,contM] at hR
       by_cases hcl : bz < cl
       ·rw [if_pos hcl] at hR
        have HRN:=Lib.hid hR
        have hcl2 : ¬ cl <= bz:=by omega
        clear hR
        go_wp2_with fail
        exact ⟨⟨k + 1,cl,q',rfl,by go_num,by omega,HT5.out,HG5.out,HRN.out.symm⟩,by simp [intOf];omega⟩
       ·rw [if_neg hcl] at hR
        have HRN:=Lib.hid hR
        have hcl2 : cl <= bz:=by omega
        clear hR
        go_wp2_with fail
        go_ret2
        exact OfPost.no HRN.out rfl HB5.out
     ·obtain rfl : k = n:=by omega
      have hR:=hO.rest
      rw [<- HN.out,List.drop_length,ofRows] at hR
      have HRN:=Lib.hid hR
      have HT:=Lib.hid hO.tab
      have hbf : Below w.heap.size w wr:=hbw2.grown hO.grown hbw2.size (fun g hg=>by injection hg with hg;subst hg;have:=hb1.size;omega)
      have HBF:=Lib.hid hbf
      clear hR hO hbf
      go_wp2_with fail
      go_ret2
      exact OfPost.yes HRN.out.symm rfl HT.out (by have:=hb1.size;omega) HBF.out
   ·rw [if_neg hk3]
    have hk4 : (tk != 3) = true:=by simpa using (fun h=>hk3 h : ¬ tk = 3)
    clear hk3
    go_enter Tryz.func204,Tryz.ntmps204
    go_wp2_with fail
    refine honly.mono ?_
    rintro e w1 ⟨v,rfl,⟨A,c,xs,rfl,h2,hlc,hcm,hr,hrl⟩,hb1⟩
    simp only [T.k,T.n,T.s,T.l] at hr ⊢
    clear honly h2 hlc hcm hr hrl
    go_wp2_with fail
    go_ret2
    exact ⟨rfl,hb1.alloc hb1.size _⟩
end
end Be
end Go.Proofs.YtegjjhjgfkcbhaaGreatDoor
