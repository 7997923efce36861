/- BMk BVal. Conditions: as each part says. -/
import Derived.Test.YtegjjhjgfkcbhaaGreatDoorQ04
import Derived.Test.YtegjjhjgfkcbhaaGreatDoorQShelf
set_option linter.unusedVariables false
set_option linter.unusedSimpArgs false
set_option maxRecDepth 100000
set_option maxHeartbeats 16000000
namespace Go.Proofs.YtegjjhjgfkcbhaaGreatDoor
namespace Be
section
open Go Go.RowKit
section
variable {P : Program} (w : World)
theorem run_append_of_nil (base : Nat) (t ty e : TypeId) (i : TypeInfo) (size : Nat) (ht : P.underlying t = some (.slice e)) (hi : P.info? e = some i)
  (v : Value) (n : Nat) (xs : List Value) (hown : w.ownsRow base e size v n xs) (c : Nat) : (Builtin.append_ #[t,t] ty #[v,.slice none 0 c]).run P w = .ok v w:=by
 rcases hown.2 with ⟨rfl,rfl⟩ | ⟨g,cap,cur,rfl,_,_,hnc,_⟩
 ·simp [Builtin.append_,run_underlying ht,sizeOf,typeInfo,hi,Builtin.lenOf,Builtin.firstCells]
 ·simp [Builtin.append_,run_underlying ht,sizeOf,typeInfo,hi,Builtin.lenOf,Builtin.firstCells,hnc,storeCells]
theorem run_append_any (base : Nat) (t ty e : TypeId) (i : TypeInfo) (z : Value) (size bytes : Nat) (ht : P.underlying t = some (.slice e)) (hi : P.info? e = some i) (hz : i.zero = some z)
  (hsize : i.size = size) (hby : i.bytes = bytes) (hzs : z.cells.size = size) (hsz : 0 < size)
  (v : Value) (n : Nat) (xs : List Value) (hown : w.ownsRow base e size v n xs)
  (ok : Nat -> Prop) (A : Option Addr) (m c : Nat) (news : List Value) (hr : ReadsP ok w size A m news) (h1 : ∀ u ∈ news,u.oneCell' = true)
  (h63 : n + m <= maxLen) (hbytes : (n + m) * bytes <= 140737488355328) (hbase : base <= w.heap.size) :
  ∃ v' w',(Builtin.append_ #[t,t] ty #[v,.slice A m c]).run P w = .ok v' w' /\ w'.ownsRow base e size v' (n + m) (xs ++ news) /\ w.grownBy w' v.ownBlock /\
   (v'.ownBlock = v.ownBlock \/ v'.ownBlock = some w.heap.size):=by
 rcases A with _ | ad
 ·have hm : m = 0:=by
   rcases Nat.eq_zero_or_pos m with h0 | h0
   ·exact h0
   ·obtain ⟨ad,h,_⟩:=hr.at_ h0
    cases h
  subst hm
  have hn : news = []:=List.eq_nil_of_length_eq_zero (by simpa using hr.len)
  subst hn
  exact ⟨v,w,run_append_of_nil w base t ty e i size ht hi v n xs hown c,by simpa using hown,World.grownBy.refl w _,.inl rfl⟩
 ·have hcells : ∀ j u,news[j]? = some u -> w.cell? (ad.add j) = some u:=by
   intro j u hu
   rcases Nat.eq_zero_or_pos m with h0 | h0
   ·subst h0
    have hn : news = []:=List.eq_nil_of_length_eq_zero (by simpa using hr.len)
    subst hn
    simp at hu
   ·obtain ⟨ad',h,_,_,_,hc⟩:=hr.at_ h0
    injection h with h
    subst h
    exact hc j u hu
  obtain ⟨v',w',hrun,h2,h3,_,h5⟩:=run_append_own_at (P:=P) w base t ty e i z size bytes ht hi hz hsize hby hzs hsz v n xs hown ad m c news hr.len hcells h1 h63 hbytes hbase
  exact ⟨v',w',hrun,h2,h3,h5⟩
theorem wpList_append_any {ops : Array Oper} {rest : List Oper} {o : Oper} {a : Act} {Q : Exit -> Act -> World -> Prop} (hgd : o.guard = none) (s x : Operand) (t : TypeId)
  (ho : o.op = .call { callee:=.builtin .append,args:=#[s,x],argTypes:=#[t,t] })
  (base : Nat) (e : TypeId) (i : TypeInfo) (z : Value) (size bytes : Nat) (ht : P.underlying t = some (.slice e)) (hi : P.info? e = some i) (hz : i.zero = some z)
  (hsize : i.size = size) (hby : i.bytes = bytes) (hzs : z.cells.size = size) (hsz : 0 < size)
  (v : Value) (n : Nat) (xs : List Value) (hs : a.eval s = v) (hown : w.ownsRow base e size v n xs)
  (ok : Nat -> Prop) (A : Option Addr) (m c : Nat) (news : List Value) (hx : a.eval x = .slice A m c) (hr : ReadsP ok w size A m news) (h1 : ∀ u ∈ news,u.oneCell' = true)
  (h63 : n + m <= maxLen) (hbytes : (n + m) * bytes <= 140737488355328) (hbase : base <= w.heap.size)
  (h : ∀ v' w',w'.ownsRow base e size v' (n + m) (xs ++ news) -> w.grownBy w' v.ownBlock -> (v'.ownBlock = v.ownBlock \/ v'.ownBlock = some w.heap.size) -> wpList P ops Q rest (a.put o.dst v') w') : wpList P ops Q (o :: rest) a w:=by
 refine wpList_plain hgd fun _ hK=>?_
 obtain ⟨v',w',hrun,h2,h3,h4⟩:=run_append_any (P:=P) w base t o.type e i z size bytes ht hi hz hsize hby hzs hsz v n xs hown ok A m c news hr h1 h63 hbytes hbase
 unfold Oper.wp execOp
 simp only [ho,resolve,invoke,builtin,Sem.run_bind,Sem.run_pure,Result.andThen_ok,List.map_toArray,List.map_cons,List.map_nil,hs,hx,hrun]
 exact hK _ _ (h v' w' h2 h3 h4)
end
theorem int_any (n : Int) (w : World) : Calls Tryz.prog 130 #[.int .i64 n] w fun e w'=>e = .returned (.agg #[.int .i64 1,.int .i64 n,.string ⟨#[]⟩,.slice none 0 0]) /\ Below w.heap.size w w':=by
 go_enter Tryz.func130,Tryz.ntmps130
 go_wp2
 refine bodyPost_ret (v:=.agg #[.int .i64 1,.int .i64 n,.string ⟨#[]⟩,.slice none 0 0]) (by simp [results,Tryz.results130,go_sem]) rfl ⟨rfl,?_⟩
 exact (Below.refl _ _).alloc (Nat.le_refl _) _
theorem below_new {w w1 : World} {o : Obj} (hb : Below (w.alloc o).heap.size (w.alloc o) w1) : Below w.heap.size w w1:=((Below.refl _ _).alloc (Nat.le_refl _) _).trans (hb.mono (by simp))
theorem below_of_grown {w w' : World} {row : Option Nat} (hg : w.grownBy w' row) (hr : row = none) : Below w.heap.size w w':=⟨hg.os,hg.tape,hg.output,hg.size,fun k hk=>hg.block k hk (by rw [hr];simp)⟩
theorem clone_any (s : ByteArray) (hs : s.size <= 1000000000) (w : World) : Calls Tryz.prog 138 #[.string s] w fun e w'=>e = .returned (.string s) /\ Below w.heap.size w w':=by
 go_enter Tryz.func138,Tryz.ntmps138
 go_wp2_with (go_at_call 172;refine (Tryz.stringslite_Clone s _ (by omega)).mono ?_;rintro e w1 ⟨rfl,hb⟩)
 go_ret
 exact ⟨rfl,hb⟩
theorem str_any (s : ByteArray) (hs : s.size <= 1000000000) (w : World) : Calls Tryz.prog 132 #[.string s] w fun e w'=>e = .returned (.agg #[.int .i64 2,.int .i64 0,.string s,.slice none 0 0]) /\ Below w.heap.size w w':=by
 go_enter Tryz.func132,Tryz.ntmps132
 go_wp2_with fail
 refine (clone_any s hs _).mono ?_
 rintro e w1 ⟨rfl,hb⟩
 obtain ⟨hc,hf⟩:=bcell hb
 have hz : w.heap.size < w1.heap.size:=by have:=hb.size;simp at this;omega
 go_wp2_with fail
 refine bodyPost_ret (v:=.agg #[.int .i64 2,.int .i64 0,.string s,.slice none 0 0]) (by simp [results,Tryz.results132,go_sem,hc,hz]) rfl ⟨rfl,?_⟩
 exact ((((below_new hb).setCell (by simp) _).setCell (by simp) _).setCell (by simp) _).setCell (by simp) _
theorem list_any (A : Option Addr) (n c : Nat) (ok : Nat -> Prop) (xs : List Value) (w : World) (hr : ReadsP ok w 4 A n xs) (hn : n <= 1000000000) (h1 : ∀ u ∈ xs,u.oneCell' = true) : Calls Tryz.prog 135 #[.slice A n c] w fun e w'=>∃ v,e = .returned (.agg #[.int .i64 3,.int .i64 0,.string ⟨#[]⟩,v]) /\ w'.ownsRow (w.heap.size + 1) 202 4 v n xs /\ Below w.heap.size w w':=by
 obtain ⟨i0,hi,hz0,hz1,hz2⟩:=info_parts value_row
 go_enter Tryz.func135,Tryz.ntmps135
 go_wp2_with (at_builtin;refine wpList_append_any _ rfl _ (.tmp 3) 200 rfl (w.heap.size + 1) 202 i0 _ 4 56 Tryz.underlying200 hi hz0 hz1 hz2 rfl (by decide) (.slice none 0 0) 0 [] rfl (World.ownsRow_nil ..) ok A n c xs rfl (hr.keep (Keeps.of_below ((Below.refl w.heap.size w).alloc (Nat.le_refl _) _) (fun b _ h=>h))) h1 (by unfold maxLen;omega) (by omega) (by simp) ?_;intro v' w1 hown hg _;rw [Nat.zero_add,List.nil_append] at hown;obtain ⟨A',c',rfl,_,_⟩:=own_shape hown;have hb:=below_of_grown hg rfl;obtain ⟨hc,hf⟩:=bcell hb;have hz : w.heap.size < w1.heap.size:=(by have:=hb.size;simp at this;omega))
 refine bodyPost_ret (v:=.agg #[.int .i64 3,.int .i64 0,.string ⟨#[]⟩,.slice A' n c']) (by simp [results,Tryz.results135,go_sem,hc,hz]) rfl ⟨_,rfl,?_,?_⟩
 ·exact ownsRow_setCell_below (ownsRow_setCell_below (ownsRow_setCell_below (ownsRow_setCell_below hown (by simp) _) (by simp) _) (by simp) _) (by simp) _
 ·exact ((((below_new hb).setCell (by simp) _).setCell (by simp) _).setCell (by simp) _).setCell (by simp) _
end
end Be
namespace Be
section
open Go Go.RowKit
def RdA (ok : Nat -> Prop) (w : World) (t : T) (v : Value) : Prop:=∃ A c xs,v = .agg #[.int .i64 t.k,.int .i64 t.n,.string t.s,.slice A t.l.length c] /\ t.s.size <= maxLen /\ t.l.length <= c /\ c <= maxLen /\ ReadsP ok w 4 A t.l.length xs /\ RdL ok w t.l xs
theorem RdA.rd {ok : Nat -> Prop} {w : World} {t : T} {v : Value} (h : RdA ok w t v) : ∃ A c,v = .agg #[.int .i64 t.k,.int .i64 t.n,.string t.s,.slice A t.l.length c] /\ Rd ok w t [.int .i64 t.k,.int .i64 t.n,.string t.s,.slice A t.l.length c]:=by
 obtain ⟨A,c,xs,h1,h2,h3,h4,h5,h6⟩:=h
 cases t
 exact ⟨A,c,h1,by rw [Rd];exact ⟨A,c,xs,rfl,h2,h3,h4,h5,h6⟩⟩
theorem RdA.keep {ok : Nat -> Prop} {w w' : World} {t : T} {v : Value} (h : RdA ok w t v) (k : Keeps ok w w') : RdA ok w' t v:=by
 obtain ⟨A,c,xs,h1,h2,h3,h4,h5,h6⟩:=h
 exact ⟨A,c,xs,h1,h2,h3,h4,h5.keep k,RdL.keep k _ _ h6⟩
theorem RdA.mono {ok ok' : Nat -> Prop} {w : World} {t : T} {v : Value} (h : RdA ok w t v) (k : ∀ b,ok b -> b < w.heap.size -> ok' b) : RdA ok' w t v:=by
 obtain ⟨A,c,xs,h1,h2,h3,h4,h5,h6⟩:=h
 exact ⟨A,c,xs,h1,h2,h3,h4,h5.mono k,RdL.mono k _ _ h6⟩
theorem rdl_more {B : Nat} {w0 w1 w2 : World} {v v' : Value} {t : T} {ts : List T} {xs cs : List Value} (h : RdL (fun b=>B <= b /\ some b ≠ v.ownBlock) w1 ts xs)
  (ht : Rd (fun b=>w0.heap.size <= b) w1 t cs) (hB : B <= w0.heap.size) (hlt : ∀ k,v.ownBlock = some k -> k < w0.heap.size)
  (hgr : w1.grownBy w2 v.ownBlock) (hb : v'.ownBlock = v.ownBlock \/ ∀ k,v'.ownBlock = some k -> w1.heap.size <= k) : RdL (fun b=>B <= b /\ some b ≠ v'.ownBlock) w2 (ts ++ [t]) (xs ++ cs):=by
 refine RdL.snoc ?_ ?_
 ·have k2 : Keeps (fun b=>w0.heap.size <= b /\ b < w1.heap.size) w1 w2:=Keeps.of_grown hgr (fun b hb e=>by have:=hlt _ e.symm;omega)
  have h3:=Rd.mono (ok':=fun b=>w0.heap.size <= b /\ b < w1.heap.size) (fun b hb hl=>⟨hb,hl⟩) _ _ ht
  refine Rd.mono ?_ _ _ (Rd.keep k2 _ _ h3)
  intro b hb' _
  refine ⟨by omega,fun e=>?_⟩
  rcases hb with h5 | h5
  ·have:=hlt _ (h5.symm.trans e.symm);omega
  ·have:=h5 b e.symm;omega
 ·have k2 : Keeps (fun b=>(B <= b /\ some b ≠ v.ownBlock) /\ b < w1.heap.size) w1 w2:=Keeps.of_grown hgr (fun b hb e=>hb.1.2 e)
  have h4:=RdL.mono (ok':=fun b=>(B <= b /\ some b ≠ v.ownBlock) /\ b < w1.heap.size) (fun b hb hl=>⟨hb,hl⟩) _ _ h
  refine RdL.mono ?_ _ _ (RdL.keep k2 _ _ h4)
  intro b hb' _
  refine ⟨hb'.1.1,fun e=>?_⟩
  rcases hb with h5 | h5
  ·exact hb'.1.2 (e.trans h5)
  ·have:=h5 b e.symm;omega
theorem sz_mem {k n : Int} {s : ByteArray} {l : List T} {u : T} (h : u ∈ l) : SizeOf.sizeOf u < SizeOf.sizeOf (T.mk k n s l):=by
 have:=List.sizeOf_lt_of_mem h
 simp
 omega
theorem tidyL_len : ∀ l : List T,(tidyL l).length = l.length
 | []=>rfl
 | t :: ts=>by simp [tidyL,tidyL_len ts]
theorem tidyL_snoc : ∀ (l : List T) (t : T),tidyL (l ++ [t]) = tidyL l ++ [tidy t]
 | [],t=>rfl
 | u :: us,t=>by simp [tidyL,tidyL_snoc us t]
mutual
def limT : T -> Bool
 | .mk _ _ s l=>decide (s.size <= 1000000000) && limL l
def limL : List T -> Bool
 | []=>true
 | t :: ts=>limT t && limL ts
end
theorem limL_mem : ∀ {l : List T} {u : T},limL l = true -> u ∈ l -> limT u = true
 | t :: ts,u,h,hu=>by
  simp only [limL,Bool.and_eq_true] at h
  rcases List.mem_cons.1 hu with rfl | hu
  ·exact h.1
  ·exact limL_mem h.2 hu
def VOPost (t : T) (w : World) (e : Ending) (w' : World) : Prop:=∃ v',e = .returned v' /\ RdA (fun b=>w.heap.size <= b) w' (tidy t) v' /\ Below w.heap.size w w'
theorem tidy_int (n : Int) (s : ByteArray) (l : List T) : tidy (.mk 1 n s l) = .mk 1 n .empty []:=by rw [tidy,if_pos rfl]
theorem tidy_text (n : Int) (s : ByteArray) (l : List T) : tidy (.mk 2 n s l) = .mk 2 0 s []:=by rw [tidy,if_neg (by decide),if_pos rfl]
theorem tidy_list (n : Int) (s : ByteArray) (l : List T) : tidy (.mk 3 n s l) = .mk 3 0 .empty (tidyL l):=by rw [tidy,if_neg (by decide),if_neg (by decide)]
theorem Keeps.setCell {ok : Nat -> Prop} {a w : World} (h : Keeps ok a w) (p : Addr) (hp : ¬ ok p.block) (u : Value) : Keeps ok a (w.setCell p u) :=
 ⟨by simpa using h.1,fun b hb hl=>by
  rw [Below.heap_setCell w p u b (by rintro rfl;exact hp hb)]
  exact h.2 b hb hl⟩
theorem val_block {w : World} {b : Nat} {c0 c1 c2 c3 : Value} (h : w.heap[b]? = some (.cells #[c0,c1,c2,c3] 202 (0,0))) : w.cell? ⟨b,0,none⟩ = some c0 /\ w.cell? ⟨b,1,none⟩ = some c1 /\ w.cell? ⟨b,2,none⟩ = some c2 /\ w.cell? ⟨b,3,none⟩ = some c3 /\ (∀ o,w.frozen? ⟨b,o,none⟩ = false):=by
 simp [World.cell?,World.frozen?,h]
structure VRel (l : List T) (w0 : World) (v : Value) (wr : World) (k : Nat) (xs : List Value) : Prop where
 own : wr.ownsRow w0.heap.size 202 4 v k xs
 bel : Below w0.heap.size w0 wr
 rdl : RdL (fun b=>w0.heap.size <= b /\ some b ≠ v.ownBlock) wr (tidyL (l.take k)) xs
theorem VRel.step {l : List T} {w0 : World} {v v' : Value} {wr w1 w2 : World} {k : Nat} {xs cs : List Value} (h : VRel l w0 v wr k xs) (hk : k < l.length) (hb1 : Below wr.heap.size wr w1)
  (ht : Rd (fun b=>wr.heap.size <= b) w1 (tidy l[k]) cs) (hown : w2.ownsRow w0.heap.size 202 4 v' (k + 1) (xs ++ cs)) (hgr : w1.grownBy w2 v.ownBlock) (hb : v'.ownBlock = v.ownBlock \/ ∀ k,v'.ownBlock = some k -> w1.heap.size <= k) : VRel l w0 v' w2 (k + 1) (xs ++ cs):=by
 have hlt:=own_lt h.own
 have hs:=h.bel.size
 have hs1:=hb1.size
 refine ⟨hown,?_,?_⟩
 ·exact (h.bel.trans (hb1.mono hs)).grown hgr (by omega) (fun g hg=>(hlt g hg).1)
 ·rw [List.take_succ_eq_append_getElem hk,tidyL_snoc]
  refine rdl_more (w0:=wr) (RdL.keep ?_ _ _ h.rdl) ht hs (fun g hg=>(hlt g hg).2) hgr hb
  exact Keeps.of_below hb1 (fun b _ hb=>hb)
theorem valueOf_of (N : Nat) : ∀ (t : T) (v : Value) (ok : Nat -> Prop) (w : World),SizeOf.sizeOf t < N -> Hv ok w t v -> limT t = true -> Calls Tryz.prog 209 #[v] w (VOPost t w):=by
 induction N with
 | zero=>intro t v ok w h;omega
 | succ N ih =>
  intro t v ok w hN hv hlim
  obtain ⟨k,n,s,l⟩:=t
  simp only [limT,Bool.and_eq_true,decide_eq_true_eq] at hlim
  rw [Hv] at hv
  rcases hv with ⟨rfl,rfl⟩ | ⟨rfl,rfl⟩ | ⟨rfl,A,c,xs,rfl,hll,hr,hl⟩
  ·have as0:=as_3_3 (.int .i64 n)
   have HT:=Lib.hid (tidy_int n s l)
   go_enter Tryz.func209,Tryz.ntmps209
   go_wp2_with fail
   refine (int_any n _).mono ?_
   rintro e w1 ⟨rfl,hb⟩
   obtain ⟨hc,hf⟩:=bcell hb
   have hz : w.heap.size < w1.heap.size:=by have:=hb.size;simp at this;omega
   go_wp2_with fail
   refine bodyPost_ret (v:=.agg #[.int .i64 1,.int .i64 n,.string ⟨#[]⟩,.slice none 0 0]) (by simp [results,Tryz.results209,go_sem,hc,hz]) rfl ⟨_,rfl,?_,?_⟩
   ·rw [HT.out]
    exact ⟨none,0,[],rfl,by simp [T.s,maxLen],by simp [T.l],by simp [maxLen],ReadsP.none_,rfl⟩
   ·exact ((((below_new hb).setCell (by simp) _).setCell (by simp) _).setCell (by simp) _).setCell (by simp) _
  ·have as0:=as_9_3 (.string s)
   have as1:=as_9_9 (.string s)
   have HT:=Lib.hid (tidy_text n s l)
   go_enter Tryz.func209,Tryz.ntmps209
   go_wp2_with fail
   refine (str_any s hlim.1 _).mono ?_
   rintro e w1 ⟨rfl,hb⟩
   obtain ⟨hc,hf⟩:=bcell hb
   have hz : w.heap.size < w1.heap.size:=by have:=hb.size;simp at this;omega
   go_wp2_with fail
   refine bodyPost_ret (v:=.agg #[.int .i64 2,.int .i64 0,.string s,.slice none 0 0]) (by simp [results,Tryz.results209,go_sem,hc,hz]) rfl ⟨_,rfl,?_,?_⟩
   ·rw [HT.out]
    exact ⟨none,0,[],rfl,by have:=hlim.1;simp [T.s,maxLen];omega,by simp [T.l],by simp [maxLen],ReadsP.none_,rfl⟩
   ·exact ((((below_new hb).setCell (by simp) _).setCell (by simp) _).setCell (by simp) _).setCell (by simp) _
  ·have as0:=as_63_3 (.slice A l.length c)
   have as1:=as_63_9 (.slice A l.length c)
   have as2:=as_63_63 (.slice A l.length c)
   have HT:=Lib.hid (tidy_list n s l)
   generalize hlen : l.length = len at *
   have HLEN:=Lib.hid hlen
   clear hlen
   go_enter Tryz.func209,Tryz.ntmps209
   go_wp2_with fail
   have hb0 : Below w.heap.size w (w.alloc (.cells #[.int .i64 0,.int .i64 0,.string ⟨#[]⟩,.slice none 0 0] 202)):=(Below.refl _ _).alloc (Nat.le_refl _) _
   have hz0 : w.heap.size < (w.alloc (.cells #[.int .i64 0,.int .i64 0,.string ⟨#[]⟩,.slice none 0 0] 202)).heap.size:=by simp
   have hblk:=heap_alloc_new w (.cells #[.int .i64 0,.int .i64 0,.string ⟨#[]⟩,.slice none 0 0] 202)
   generalize w.alloc (.cells #[.int .i64 0,.int .i64 0,.string ⟨#[]⟩,.slice none 0 0] 202) = w0 at hb0 hz0 hblk
   have HBLK:=Lib.hid hblk
   clear hblk
   go_loopw [6,25] (fun v i wr=>∃ (k : Nat) (xs' : List Value),i = .int .i64 (k : Int) /\ k <= len /\ VRel l w0 v wr k xs') (fun _ i _=>len - (intOf i).toNat)
   case atStart=>exact ⟨0,[],rfl,Nat.zero_le _,World.ownsRow_nil ..,Below.refl _ _,rfl⟩
   case round =>
    obtain ⟨k,xs',rfl,hk,hV⟩:=hrel
    have hbw : Below w.heap.size w wr:=hb0.trans (hV.bel.mono (by omega))
    by_cases hlt : k < len
    ·have hkl : k < l.length:=by have:=HLEN.out;omega
     have hltz : (k : Int) < (len : Int):=by omega
     obtain ⟨y,hy,hxy⟩:=HvL.get hl hkl
     obtain ⟨ad,hA,hbk,hblt,_,hcell⟩:=hr.at_ (by omega)
     subst hA
     have hc : wr.cell? (ad.add k) = some y:=by
      rw [hbw.cell (by rw [block_of_add];exact hblt)]
      exact hcell k y hxy
     have hy':=Hv.keep (Keeps.of_below hbw (fun b _ h=>h)) _ _ hy
     have hmem : l[k] ∈ l:=List.getElem_mem _
     have hszk : SizeOf.sizeOf l[k] < N:=by have:=sz_mem (k:=3) (n:=n) (s:=s) hmem;omega
     have hlk:=limL_mem hlim.2 hmem
     clear hxy hcell hy
     go_wp2_with fail
     refine (ih l[k] y ok _ hszk hy' hlk).mono ?_
     rintro e w1 ⟨v',rfl,hRA,hb1⟩
     obtain ⟨A',c',rfl,hRd⟩:=hRA.rd
     have hs1 : w0.heap.size <= w1.heap.size:=Nat.le_trans hV.bel.size hb1.size
     have hown1 : w1.ownsRow w0.heap.size 202 4 u6 k xs':=hV.own.kept (grown_below hb1 none) (by
      cases h : u6.ownBlock with
      | none=>exact .inl rfl
      | some g=>exact .inr (by simp))
     go_wp2_with (at_builtin;refine append_value rfl (.tmp 29) (.tmp 32) rfl w0.heap.size _ k xs' _ _ _ _ (Rd.one _ _ hRd) rfl hown1 rfl (by omega) hs1 ?_;intro v2 w2 hown2 hgr2 hob2)
     go_roundw
     case rel=>exact ⟨k + 1,_,by go_num,by omega,hV.step hkl hb1 hRd hown2 hgr2 hob2⟩
     case measure=>simp [intOf];omega
    ·obtain rfl : k = len:=by omega
     have htk : l.take k = l:=List.take_of_length_le (by have:=HLEN.out;omega)
     have hrdl:=hV.rdl
     rw [htk] at hrdl
     clear htk
     have hown:=hV.own
     obtain ⟨A2,c2,rfl,_,_⟩:=own_shape hown
     have hsz2:=hV.bel.size
     go_wp2_with fail
     refine (list_any A2 k c2 _ xs' _ (ReadsP.of_own hown) (by omega) (RdL.one _ _ hrdl)).mono ?_
     rintro e w3 ⟨v3,rfl,hown3,hb3⟩
     obtain ⟨A3,c3,rfl,hkc,hcm⟩:=own_shape hown3
     have hb03 : Below w0.heap.size w0 w3:=hV.bel.trans (hb3.mono hsz2)
     have hblk3 : w3.heap[w.heap.size]? = some (.cells #[.int .i64 0,.int .i64 0,.string ⟨#[]⟩,.slice none 0 0] 202 (0,0)):=(hb03.block _ hz0).trans HBLK.out
     obtain ⟨e0,e1,e2,e3,ef⟩:=val_block hblk3
     have hbw3 : Below w.heap.size w w3:=hb0.trans (hb03.mono (by omega))
     have hz3 : w.heap.size < w3.heap.size:=Nat.lt_of_lt_of_le hz0 hb03.size
     go_wp2_with fail
     have hfin : Below w.heap.size w ((((w3.setCell ⟨w.heap.size,0,none⟩ (.int .i64 3)).setCell ⟨w.heap.size,1,none⟩ (.int .i64 0)).setCell ⟨w.heap.size,2,none⟩ (.string ⟨#[]⟩)).setCell ⟨w.heap.size,3,none⟩ (.slice A3 k c3)):=(((hbw3.setCell (Nat.le_refl _) _).setCell (Nat.le_refl _) _).setCell (Nat.le_refl _) _).setCell (Nat.le_refl _) _
     have hown4:=ownsRow_setCell_below (ownsRow_setCell_below (ownsRow_setCell_below (ownsRow_setCell_below hown3 (a:=⟨w.heap.size,0,none⟩) (by simp;omega) (.int .i64 3)) (a:=⟨w.heap.size,1,none⟩) (by simp;omega) (.int .i64 0)) (a:=⟨w.heap.size,2,none⟩) (by simp;omega) (.string ⟨#[]⟩)) (a:=⟨w.heap.size,3,none⟩) (by simp;omega) (.slice A3 k c3)
     refine bodyPost_ret (v:=.agg #[.int .i64 3,.int .i64 0,.string ⟨#[]⟩,.slice A3 k c3]) (by simp [results,Tryz.results209,go_sem,e0,e1,e2,e3,hz3]) rfl ⟨_,rfl,?_,hfin⟩
     rw [HT.out]
     have hlen : (tidyL l).length = k:=by rw [tidyL_len];exact HLEN.out
     refine ⟨A3,c3,xs',by simp only [T.k,T.n,T.s,T.l,hlen];rfl,by simp [T.s,maxLen],by simp only [T.l,hlen];exact hkc,hcm,?_,?_⟩
     ·simp only [T.l,hlen]
      exact (ReadsP.of_own hown4).mono (fun b hb _=>by omega)
     ·simp only [T.l]
      have k0 : Keeps (fun b=>w0.heap.size <= b) wr w3:=Keeps.of_below hb3 (fun b _ h=>h)
      have k1:=(((k0.setCell ⟨w.heap.size,0,none⟩ (by simp;omega) (.int .i64 3)).setCell ⟨w.heap.size,1,none⟩ (by simp;omega) (.int .i64 0)).setCell ⟨w.heap.size,2,none⟩ (by simp;omega) (.string ⟨#[]⟩)).setCell ⟨w.heap.size,3,none⟩ (by simp;omega) (.slice A3 k c3)
      exact RdL.mono (fun b hb _=>by omega) _ _ (RdL.keep k1 _ _ (RdL.mono (fun b hb _=>hb.1) _ _ hrdl))
theorem valueOf_any (t : T) (v : Value) (ok : Nat -> Prop) (w : World) (hv : Hv ok w t v) (hl : limT t = true) : Calls Tryz.prog 209 #[v] w (VOPost t w):=valueOf_of (SizeOf.sizeOf t + 1) t v ok w (by omega) hv hl
end
end Be
end Go.Proofs.YtegjjhjgfkcbhaaGreatDoor
