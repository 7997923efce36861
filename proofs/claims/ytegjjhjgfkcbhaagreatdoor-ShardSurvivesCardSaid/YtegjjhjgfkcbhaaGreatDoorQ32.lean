/- WSrtS WSplit. Conditions: as each part says. -/
import Derived.Test.YtegjjhjgfkcbhaaGreatDoorQ31
import Derived.Test.YtegjjhjgfkcbhaaGreatDoorQ20
import Derived.Deep.RegionHeld3
import Derived.Deep.LoopGhost
set_option linter.unusedVariables false
set_option linter.unusedSimpArgs false
set_option maxRecDepth 100000
set_option maxHeartbeats 16000000
namespace Go.Proofs.YtegjjhjgfkcbhaaGreatDoor
section
open Go Go.RowKit Go.Maps
open Go.Sort (HoldsK grow PermIn SortedIn SWO alloc_eq_grow grow_grow)
structure Dst where
 v : Int
 lo : 0 <= v
 hi : v <= 68719476720
abbrev Spot:=Int × (Option Addr × Nat × Nat) × List Int × Dst
def scell (s : Spot) : List Value:=[.int .i64 s.1,.slice s.2.1.1 s.2.1.2.1 s.2.1.2.2,.int .i64 s.2.2.2.v]
instance : Inhabited Spot:=⟨(0,(none,0,0),[],⟨0,by omega,by omega⟩)⟩
theorem scell_one (x : Spot) : ∀ v ∈ scell x,v.oneCell' = true:=by
 intro v hv
 simp [scell] at hv
 rcases hv with rfl | rfl | rfl <;> rfl
def cmpS (x y : Spot) : Int:=x.2.2.2.v - y.2.2.2.v
theorem ltS (x y : Spot) : ltOf cmpS x y = decide (x.2.2.2.v < y.2.2.2.v):=by
 unfold ltOf cmpS
 rw [decide_eq_decide]
 omega
theorem swoS : SWO (ltOf cmpS):=⟨fun x=>by rw [ltS];simp,fun x y z h1 h2=>by rw [ltS] at *;simp at *;omega,fun x y z h1 h2=>by rw [ltS] at *;simp at *;omega⟩
theorem splC_any (x y : Spot) (W : World) : Calls Tryz.prog 185 #[.agg (scell x).toArray,.agg (scell y).toArray] W fun e w'=>e = .returned (.int .i64 (cmpS x y)) /\ ∃ q os',w' = grow (W.drewN q) os':=by
 obtain ⟨x,⟨A,n,c⟩,l,⟨f,f1,f2⟩⟩:=x
 obtain ⟨y,⟨B,m,d⟩,k,⟨e,e1,e2⟩⟩:=y
 simp only [scell,cmpS]
 go_enter Tryz.func185,Tryz.ntmps185
 go_wp2_with fail
 go_ret
 exact ⟨rfl,0,_,by rw [alloc_eq_grow,alloc_eq_grow,grow_grow];rfl⟩
structure SortPostS (w : World) (g off : Nat) (d : Array Spot) (e : Ending) (w' : World) (d' : Array Spot) : Prop where
 ret : e = .returned (.tuple #[])
 size : d'.size = d.size
 perm : d'.toList.Perm d.toList
 rise : ∀ i j,i < j -> j < d'.size -> d'[i]!.2.2.2.v <= d'[j]!.2.2.2.v
 holds : HoldsK scell 3 w' g off d'
 turn : Turn (fun b=>b = g) w (fun b=>b = g) w'
 out : ∀ p : Addr,(p.off < off \/ off + d.size * 3 <= p.off) -> p.block < w.heap.size -> w'.cell? p = w.cell? p
 froz : ∀ p : Addr,p.block < w.heap.size -> w'.frozen? p = w.frozen? p
theorem sortS_any (g off cap : Nat) (d : Array Spot) (w : World) (hH : HoldsK scell 3 w g off d) (hg : g < w.heap.size) (hsz : d.size < 4611686018427387904) :
  Calls Tryz.prog 184 #[.slice (some ⟨g,off,none⟩) d.size cap,.func (.func 185) #[] #[]] w fun e w'=>∃ d',SortPostS w g off d e w' d':=by
 have eg : ∀ args w,(callFunc 185 args).run Tryz.prog w = .ok (.enter 185 args) w:=enters_of Tryz.func185 (by kernel_rfl) rfl
 have hcon:=AnyQ.slices_SortFunc Tryz.sortS 3 Tryz.isAgg236 Tryz.sizeOf236 scell (fun _=>rfl) scell_one cmpS swoS 185 #[] g off cap d w eg (fun _ _ _ _ x y=>splC_any x y _) hH hg hsz
 refine Calls.mono (show Calls Tryz.prog 184 _ w _ from hcon) ?_
 rintro e w' ⟨rfl,d',n,os,hp,hs,rfl⟩
 obtain ⟨h1,h2⟩:=perm_in hp
 obtain ⟨h3,h4,h5,h6⟩:=sorted_world hH hg h1 n os
 refine ⟨d',rfl,h1,h2,fun i j hij hj=>?_,h3,h4,h5,h6⟩
 have:=hs i j (Nat.zero_le _) hij (by omega)
 rw [ltS,decide_eq_false_iff_not] at this
 omega
end
section
open Go Go.RowKit Go.Maps
open Go.Sort (HoldsK)
def bareS (s : Spot) : Pnt:=(s.1,s.2.2.1)
def slcS (s : Spot) : Value:=.slice s.2.1.1 s.2.1.2.1 s.2.1.2.2
structure OkS (w : World) (G : Nat -> Prop) (dim : Nat) (s : Spot) : Prop where
 wf : (Lit.int .i64 s.1).wf = true
 ok : okV s.2.2.1 = true
 len : s.2.2.1.length = dim
 vec : VecIn w G (slcS s) s.2.2.1
def SplitPost (G : Nat -> Prop) (dim g off n : Nat) (d : Array Spot) (w : World) (e : Ending) (w' : World) : Prop :=
 ∃ (p : Option Addr) (N : NT),e = .returned (.pointer p) /\ N.Good dim /\ N.ents.Perm (d.toList.map bareS) /\ NodeAt w' (fun b=>G b \/ w.heap.size <= b) (.pointer p) N /\ Turn (fun b=>b = g) w (fun b=>b = g) w' /\
  (∀ p : Addr,(p.off < off \/ off + n * 3 <= p.off) -> p.block < w.heap.size -> w'.cell? p = w.cell? p) /\ (∀ p : Addr,p.block < w.heap.size -> w'.frozen? p = w.frozen? p)
theorem OkS.turn {w w' : World} {G : Nat -> Prop} {dim g : Nat} {s : Spot} (h : OkS w G dim s) (T : Turn (fun b=>b = g) w (fun b=>b = g) w') (hG : ¬ G g) : OkS w' G dim s :=
 ⟨h.wf,h.ok,h.len,h.vec.keep (fun b hb hlt=>T.block b hlt (fun e=>hG (by have e : b = g:=e;rw [<- e];exact hb))) T.size⟩
theorem Spot.cells {w : World} {g off : Nat} {d : Array Spot} (h : HoldsK scell 3 w g off d) {i : Nat} (hi : i < d.size) {ad : Addr} (had : ad = ⟨g,off,none⟩) :
  w.cell? (ad.add (i * 3)) = some (.int .i64 d[i]!.1) /\ w.cell? ⟨(ad.add (i * 3)).block,(ad.add (i * 3)).off + 1,none⟩ = some (slcS d[i]!) /\ w.cell? ⟨(ad.add (i * 3)).block,(ad.add (i * 3)).off + 2,none⟩ = some (.int .i64 d[i]!.2.2.2.v) /\ w.frozen? ⟨(ad.add (i * 3)).block,(ad.add (i * 3)).off + 2,none⟩ = false:=by
 subst had
 have h0:=h.cell (i:=i) (c:=0) hi (by omega)
 have h1:=h.cell (i:=i) (c:=1) hi (by omega)
 have h2:=h.cell (i:=i) (c:=2) hi (by omega)
 rw [add_flat]
 exact ⟨h0.1,h1.1,h2.1,h2.2⟩
structure FarW (w2 wr : World) (g off m : Nat) (nv : List Int) (d d' : Array Spot) (i : Nat) : Prop where
 holds : HoldsK scell 3 wr g off d'
 size : d'.size = m
 same : ∀ j : Nat,j < m -> bareS d'[j]! = bareS d[j]! /\ slcS d'[j]! = slcS d[j]!
 told : ∀ j : Nat,j < i -> d'[j]!.2.2.2.v = far nv d'[j]!.2.2.1
 turn : Turn (fun b=>b = g) w2 (fun b=>b = g) wr
 out : ∀ p : Addr,(p.off < off \/ off + m * 3 <= p.off) -> p.block < w2.heap.size -> wr.cell? p = w2.cell? p
 froz : ∀ p : Addr,p.block < w2.heap.size -> wr.frozen? p = w2.frozen? p
theorem FarW.drewN {w2 wr : World} {g off m : Nat} {nv : List Int} {d d' : Array Spot} {i : Nat} (h : FarW w2 wr g off m nv d d' i) (q : Nat) : FarW w2 (wr.drewN q) g off m nv d d' i :=
 ⟨h.holds,h.size,h.same,h.told,h.turn.trans (Turn.drewN _ _ q),h.out,h.froz⟩
theorem FarW.step {w2 wr : World} {g off m : Nat} {nv : List Int} {d d' : Array Spot} {i : Nat} (h : FarW w2 wr g off m nv d d' i) (hi : i < m) (D : Dst) (hD : D.v = far nv d'[i]!.2.2.1) :
  FarW w2 (wr.setCell ⟨g,off + i * 3 + 2,none⟩ (.int .i64 D.v)) g off m nv d (d'.setIfInBounds i (d'[i]!.1,d'[i]!.2.1,d'[i]!.2.2.1,D)) (i + 1):=by
 have hi' : i < d'.size:=by rw [h.size];exact hi
 have hg : ∀ j : Nat,(d'.setIfInBounds i (d'[i]!.1,d'[i]!.2.1,d'[i]!.2.2.1,D))[j]! = if i = j then (d'[i]!.1,d'[i]!.2.1,d'[i]!.2.2.1,D) else d'[j]!:=fun j=>by
  by_cases hij : i = j
  ·subst hij
   rw [Go.Sort.getElem!_set_same d' i _ hi',if_pos rfl]
  ·rw [if_neg hij]
   by_cases hj : j < d'.size
   ·rw [getElem!_pos _ j (by simpa using hj),getElem!_pos d' j hj,Array.getElem_setIfInBounds,if_neg hij]
   ·rw [getElem!_neg _ j (by simpa using hj),getElem!_neg d' j hj]
 refine ⟨holdsK_set h.holds hi' (by omega) _ _ rfl (fun c h1 h2=>?_),by simpa using h.size,fun j hj=>?_,fun j hj=>?_,h.turn.trans (Turn.set (fun b=>b = g) wr (a:=⟨g,off + i * 3 + 2,none⟩) rfl _),fun p hp hb=>?_,fun p hb=>?_⟩
 ·rcases (show c = 0 \/ c = 1 by omega) with rfl | rfl <;> rfl
 ·rw [hg]
  by_cases hij : i = j
  ·subst hij
   rw [if_pos rfl]
   exact h.same i hj
  ·rw [if_neg hij]
   exact h.same j hj
 ·rw [hg]
  by_cases hij : i = j
  ·subst hij
   rw [if_pos rfl]
   exact hD
  ·rw [if_neg hij]
   exact h.told j (by omega)
 ·rw [World.cell?_setCell_other _ _ _ _ (fun e=>by subst e;simp only at hp;omega)]
  exact h.out p hp hb
 ·rw [World.frozen?_setCell]
  exact h.froz p hb
theorem extract_get (d : Array Spot) {a b j : Nat} (hb : b <= d.size) (hj : j < b - a) : (d.extract a b)[j]! = d[a + j]!:=by
 rw [getElem!_pos _ j (by simp;omega),getElem!_pos d (a + j) (by omega),Array.getElem_extract]
theorem FarW.start {w w2 : World} {g off m : Nat} {nv : List Int} {d : Array Spot} (hH : HoldsK scell 3 w g off d) (hds : d.size = m + 1) (hb : w2.heap[g]? = w.heap[g]?) : FarW w2 w2 g off m nv d (d.extract 0 m) 0:=by
 have h1:=holdsK_part hH (Nat.zero_le m) (by omega)
 rw [show off + 0 * 3 = off by omega] at h1
 refine ⟨holdsK_block h1 hb,by simp;omega,fun j hj=>?_,fun j hj=>absurd hj (by omega),Turn.refl _ _,fun _ _ _=>rfl,fun _ _=>rfl⟩
 rw [extract_get d (by omega) (by omega),Nat.zero_add]
 exact ⟨rfl,rfl⟩
theorem Turn.setNew {F F' : Nat -> Prop} {w wr : World} (h : Turn F w F' wr) {a : Addr} (ha : w.heap.size <= a.block) (u : Value) : Turn F w F' (wr.setCell a u) :=
 ⟨h.os,h.tape,h.output,by simpa using h.size,fun b hb hf=>(heap_set_ne wr a u (by omega)).trans (h.block b hb hf),h.foot⟩
theorem OkS.congr {w : World} {G : Nat -> Prop} {dim : Nat} {s s' : Spot} (h : OkS w G dim s) (h1 : bareS s' = bareS s) (h2 : slcS s' = slcS s) : OkS w G dim s':=by
 have e1 : s'.1 = s.1:=congrArg (fun z : Pnt=>z.1) h1
 have e2 : s'.2.2.1 = s.2.2.1:=congrArg (fun z : Pnt=>z.2) h1
 exact ⟨by rw [e1];exact h.wf,by rw [e2];exact h.ok,by rw [e2];exact h.len,by rw [e2,h2];exact h.vec⟩
theorem mem_extract {d : Array Spot} {a b : Nat} {s : Spot} (hb : b <= d.size) (h : s ∈ (d.extract a b).toList) : ∃ j,a <= j /\ j < b /\ s = d[j]!:=by
 obtain ⟨i,hi,rfl⟩:=List.mem_iff_getElem.1 h
 have hi' : i < b - a:=by simp at hi;omega
 refine ⟨a + i,by omega,by omega,?_⟩
 rw [<- extract_get d hb hi',getElem!_pos _ i (by simp;omega)]
 simp
theorem list_split (d : Array Spot) {a m : Nat} (ha : a <= m) (hm : d.size = m) : d.toList = (d.extract 0 a).toList ++ (d.extract a m).toList:=by
 rw [<- Array.toList_append]
 congr 1
 rw [Array.extract_append_extract,show max a m = d.size by omega]
 simp
theorem list_last (d : Array Spot) {m : Nat} (hm : d.size = m + 1) : d.toList = (d.extract 0 m).toList ++ [d[m]!]:=by
 rw [list_split d (a:=m) (m:=m + 1) (by omega) hm]
 congr 1
 apply List.ext_getElem
 ·simp;omega
 ·intro j h1 h2
  simp at h2
  subst h2
  simp only [Array.getElem_toList,Array.getElem_extract,List.getElem_cons_zero]
  rw [getElem!_pos d m (by omega)]
  simp
theorem map_start {d d' : Array Spot} {m : Nat} (hd : d.size = m + 1) (hs : d'.size = m) (h : ∀ j : Nat,j < m -> bareS d'[j]! = bareS d[j]!) : d'.toList.map bareS = (d.extract 0 m).toList.map bareS:=by
 apply List.ext_getElem
 ·simp;omega
 ·intro j h1 h2
  have hj : j < m:=by simp at h1;omega
  have:=h j hj
  rw [getElem!_pos d' j (by omega),getElem!_pos d j (by omega)] at this
  simpa using this
theorem holds_far {w w' : World} {g off k n : Nat} {d : Array Spot} (h : HoldsK scell 3 w g (off + k * 3) d) (hn : d.size = n) (hg : g < w.heap.size)
  (hc : ∀ p : Addr,(p.off < off \/ off + k * 3 <= p.off) -> p.block < w.heap.size -> w'.cell? p = w.cell? p) (hf : ∀ p : Addr,p.block < w.heap.size -> w'.frozen? p = w.frozen? p) : HoldsK scell 3 w' g (off + k * 3) d :=
 holdsK_keep h fun o h1 _=>⟨hc ⟨g,o,none⟩ (.inr h1) hg,hf ⟨g,o,none⟩ hg⟩
theorem split_nil (A : Option Addr) (cap : Nat) (w : World) : Calls Tryz.prog 158 #[.slice A 0 cap] w fun e w'=>e = .returned (.pointer none) /\ w' = w:=by
 go_enter Tryz.func158,Tryz.ntmps158
 go_wp2
 go_ret
 exact ⟨rfl,rfl⟩
theorem split_any (dim : Nat) : ∀ (n : Nat) (A : Option Addr) (g off cap : Nat) (d : Array Spot) (w : World) (G : Nat -> Prop),d.size = n -> n <= cap -> cap <= 1000000 -> (0 < n -> A = some ⟨g,off,none⟩) -> HoldsK scell 3 w g off d -> g < w.heap.size -> (∀ s ∈ d.toList,OkS w G dim s) -> ¬ G g -> (∀ b,G b -> b < w.heap.size) ->
  Calls Tryz.prog 158 #[.slice A n cap] w (SplitPost G dim g off n d w):=by
 intro n
 induction n using Nat.strongRecOn with
 | _ n IH=>?_
 intro A g off cap d w G hds hnc hcap hA hH hg hok hGg hGl
 rcases Nat.eq_zero_or_pos n with rfl | hn0
 ·refine (split_nil A cap w).mono ?_
  rintro e w' ⟨rfl,rfl⟩
  have hd : d.toList = []:=List.eq_nil_of_length_eq_zero (by simpa using hds)
  exact ⟨none,.leaf,rfl,trivial,by rw [hd];exact List.Perm.refl _,rfl,Turn.refl _ _,fun _ _ _=>rfl,fun _ _=>rfl⟩
 ·obtain ⟨m,rfl⟩ : ∃ m,n = m + 1:=⟨n - 1,by omega⟩
  obtain rfl:=hA hn0
  obtain ⟨ad,had⟩ : ∃ ad : Addr,ad = ⟨g,off,none⟩:=⟨_,rfl⟩
  obtain ⟨x0,x1,x2,x3⟩:=Spot.cells hH (i:=m) (by omega) had
  have hokm:=hok d[m]! (by rw [getElem!_pos d m (by omega)];simp)
  have HM:=Lib.hid (And.intro hds (And.intro hH (And.intro hg (And.intro hok (And.intro hGg hGl)))))
  have HOM:=Lib.hid hokm
  have HIH:=Lib.hid IH
  have hab : (ad.add (m * 3)).block < w.heap.size:=by rw [had,add_flat];exact hg
  rw [<- had]
  have HAD:=Lib.hid had
  unfold slcS at x1
  obtain ⟨P,hP⟩ : ∃ P,P = d[m]!:=⟨_,rfl⟩
  rw [<- hP] at x0 x1 x2
  have HP:=Lib.hid hP
  clear hok hokm IH hH hGg hGl had hP hds hA
  obtain ⟨pid,⟨pA,pn,pc⟩,pv,pf⟩:=P
  simp only at x0 x1 x2
  have hm0 : ((m : Int) + 1 == 0) = false:=by simp;omega
  have hmm : (m : Int) + 1 - 1 = (m : Int):=by omega
  obtain ⟨W2,hW2⟩ : ∃ W2,W2 = ((w.alloc (.cells #[.int .i64 pid,.slice pA pn pc,.int .i64 pf.v] 236)).alloc (.cells #[.int .i64 pid,.slice pA pn pc,.int .i64 0,.pointer none,.pointer none] 228)).drew:=⟨_,rfl⟩
  have e1 : (w.alloc (.cells #[.int .i64 pid,.slice pA pn pc,.int .i64 pf.v] 236)).heap.size = w.heap.size + 1:=by simp
  have hb2 : Below w.heap.size w W2:=by rw [hW2];exact below_drewN (((Below.refl _ w).alloc (Nat.le_refl _) _).alloc (by simp) _) 1
  have hrow2 : Row W2 (w.heap.size + 1) 228 [.int .i64 pid,.slice pA pn pc,.int .i64 0,.pointer none,.pointer none]:=by
   have:=Row.new (w.alloc (.cells #[.int .i64 pid,.slice pA pn pc,.int .i64 pf.v] 236)) 228 [.int .i64 pid,.slice pA pn pc,.int .i64 0,.pointer none,.pointer none]
   rw [e1] at this
   rw [hW2]
   exact this
  have HW2:=Lib.hid hW2.symm
  have H2:=Lib.hid (And.intro hb2 hrow2)
  clear e1 hb2 hrow2 hW2
  by_cases hmz : m = 0
  ·have hm00 : ((m : Int) == 0) = true:=by rw [hmz];rfl
   have HMZ:=Lib.hid hmz
   clear hmz
   go_enter Tryz.func158,Tryz.ntmps158
   go_wp2_with fail
   go_region
   go_wp2_with fail
   go_ret
   rw [HW2.out]
   have hT : Turn (fun b=>b = g) w (fun b=>b = g) W2:=Turn.below _ H2.out.1
   have hv:=HOM.out.turn hT HM.out.2.2.2.2.1
   have hP:=HP.out
   have hvec : VecIn W2 G (.slice pA pn pc) pv:=by have:=hv.vec;rw [<- hP] at this;exact this
   have hwf:=hv.wf
   have hokv:=hv.ok
   have hlen:=hv.len
   rw [<- hP] at hwf hokv hlen
   refine ⟨some ⟨w.heap.size + 1,0,none⟩,.node pid pv 0 .leaf .leaf,rfl,⟨hwf,hokv,hlen,by omega,by omega,fun e he=>by simp [NT.ents] at he,fun e he=>by simp [NT.ents] at he,trivial,trivial⟩,?_,?_,hT,fun p _ hb=>H2.out.1.cell hb,fun p hb=>World.frozen?_of_block (H2.out.1.block _ hb)⟩
   ·have hds:=HM.out.1
    have : d.toList = [d[0]!]:=by
     apply List.ext_getElem
     ·simp only [Array.length_toList,List.length_cons,List.length_nil]
      have:=HMZ.out
      omega
     ·intro j h1 h2
      simp at h2
      subst h2
      rw [getElem!_pos d 0 (by omega)]
      simp
    rw [this,show d[0]! = d[m]! by rw [HMZ.out],<- hP]
    exact List.Perm.refl _
   ·exact ⟨_,_,_,_,rfl,.inr (by omega),H2.out.2,hvec.more (fun b hb _=>.inl hb),rfl,rfl⟩
  ·have hm1 : ((m : Int) == 0) = false:=by simp;omega
   have hmp : 0 < m:=by omega
   clear hmz
   go_enter Tryz.func158,Tryz.ntmps158
   go_wp2_with fail
   go_region
   go_wp2_with fail
   rw [HW2.out]
   have HF0:=Lib.hid (FarW.start (nv:=pv) HM.out.2.1 HM.out.1 (H2.out.1.block g HM.out.2.2.1))
   have hgnb : g ≠ w.heap.size + 1:=by have:=HM.out.2.2.1;omega
   have hnbW : w.heap.size + 1 < W2.heap.size:=H2.out.2.lt
   have hw2 : ∀ b,b < w.heap.size -> b < W2.heap.size:=fun b hb=>Nat.lt_of_lt_of_le hb H2.out.1.size
   have HT2:=Lib.hid (show Turn (fun b=>b = g) w (fun b=>b = g) W2 from Turn.below _ H2.out.1)
   have HX:=Lib.hid (And.intro hgnb (And.intro hnbW (And.intro hw2 (show w.heap.size <= w.heap.size + 1 by omega))))
   clear hgnb hnbW hw2 x0 x1 x2 x3 HW2 hab
   generalize hnb : w.heap.size + 1 = nb at *
   have HNB:=Lib.hid hnb
   clear hnb
   go_loopw [36] (fun vi wr=>∃ (i : Nat) (d' : Array Spot),i <= m /\ vi = .int .i64 i /\ Hid (FarW W2 wr g off m pv d d' i)) (fun vi _=>m - (intOf vi).toNat)
   case atStart=>exact ⟨0,_,by omega,rfl,HF0⟩
   case round =>
    obtain ⟨i,d',hi,rfl,HF⟩:=hrel
    clear HF0
    have hrow : Row wr nb 228 [.int .i64 pid,.slice pA pn pc,.int .i64 0,.pointer none,.pointer none]:=H2.out.2.keep (HF.out.turn.block nb HX.out.2.1 (fun e=>HX.out.1 e.symm))
    by_cases hlt : i < m
    ·have hiz : (i : Int) < (m : Int):=by omega
     have n1:=hrow.cell (j:=1) rfl
     have nl:=hrow.lt
     obtain ⟨z0,z1,z2,z3⟩:=Spot.cells HF.out.holds (i:=i) (by rw [HF.out.size];exact hlt) HAD.out
     have zl : (ad.add (i * 3)).block < wr.heap.size:=lt_of_cell z0
     clear z0
     have hmem : d[i]! ∈ d.toList:=by rw [getElem!_pos d i (by have:=HM.out.1;omega)];simp
     have T9:=HT2.out.trans HF.out.turn
     have okq:=(HM.out.2.2.2.1 _ hmem).turn T9 HM.out.2.2.2.2.1
     have okp:=HOM.out.turn T9 HM.out.2.2.2.2.1
     rw [<- HP.out] at okp
     have hs:=HF.out.same i hlt
     obtain ⟨qA,qc,hq,hRq⟩:=okq.vec.reads
     obtain ⟨rA,rc,hr,hRp⟩:=okp.vec.reads
     rw [hs.2,hq] at z1
     have hvv : d'[i]!.2.2.1 = d[i]!.2.2.1:=congrArg (fun z : Pnt=>z.2) hs.1
     have hpe : (Value.slice pA pn pc) = .slice rA pv.length rc:=hr
     injection hpe with p1 p2 p3
     subst p1 p2 p3
     have hfar:=vfar_any pA qA pv.length d[i]!.2.2.1.length pc qc wr.heap.size wr.heap.size pv d[i]!.2.2.1 (wr.drewN 1) (hRp.drewN 1) (hRq.drewN 1) okp.ok okq.ok (by rw [okq.len];exact okp.len.symm)
     have HD:=Lib.hid (And.intro (far_nonneg pv d[i]!.2.2.1) (And.intro (far_le okp.ok okq.ok (by rw [okq.len];exact okp.len)) hvv))
     have HQ:=Lib.hid (And.intro hq hr)
     clear hq hr hRq hRp okq okp hs T9 hmem hvv hrow
     obtain ⟨D,hD⟩ : ∃ D,D = far pv d[i]!.2.2.1:=⟨_,rfl⟩
     rw [<- hD] at hfar
     have HDD:=Lib.hid hD
     clear hD
     generalize d[i]!.2.2.1.length = qn at *
     generalize hpl : pv.length = pn' at *
     have HPL:=Lib.hid hpl
     clear hpl
     have hadb : (ad.add (i * 3)).block = g /\ (ad.add (i * 3)).off = off + i * 3:=by rw [HAD.out,add_flat];exact ⟨rfl,rfl⟩
     have HK:=Lib.hid (show (∀ (W : World) (u : Value),(W.setCell ⟨(ad.add (i * 3)).block,(ad.add (i * 3)).off + 2,none⟩ u).cell? ⟨nb,1,none⟩ = W.cell? ⟨nb,1,none⟩) /\ (∀ (W : World) (u : Value),(W.setCell ⟨(ad.add (i * 3)).block,(ad.add (i * 3)).off + 2,none⟩ u).cell? ⟨(ad.add (i * 3)).block,(ad.add (i * 3)).off + 1,none⟩ = W.cell? ⟨(ad.add (i * 3)).block,(ad.add (i * 3)).off + 1,none⟩) from
      ⟨fun W u=>World.cell?_setCell_other _ _ _ _ (fun e=>by injection e with e1 e2;rw [hadb.1] at e1;exact HX.out.1 (by first | exact e1 | exact e1.symm)),fun W u=>World.cell?_setCell_other _ _ _ _ (fun e=>by injection e with e1 e2;omega)⟩)
     have HADB:=Lib.hid hadb
     clear hadb
     go_wp2_with fail
     go_region_held3 (fun w'=>w'.cell? ⟨nb,1,none⟩ = some (.slice pA pn' pc) /\ w'.cell? ⟨(ad.add (i * 3)).block,(ad.add (i * 3)).off + 1,none⟩ = some (.slice qA qn qc)) (first | exact ⟨n1,z1⟩ | with_reducible exact ⟨(HK.out.1 _ _).trans n1,(HK.out.2 _ _).trans z1⟩ | exact ⟨(HK.out.1 _ _).trans n1,(HK.out.2 _ _).trans z1⟩ | go_keep) ((go_at_call 106;refine hfar.mono ?_;rintro e w9 ⟨rfl,q9,rfl⟩))
     all_goals
      obtain ⟨Z,hZ⟩ : ∃ Z : Dst,Z.v = D:=⟨⟨D,by rw [HDD.out];exact HD.out.1,by rw [HDD.out];exact HD.out.2.1⟩,rfl⟩
      have hst:=(HF.out.drewN (1 + q9)).step hlt Z (by rw [hZ,HDD.out,HD.out.2.2])
      rw [show (⟨g,off + i * 3 + 2,none⟩ : Addr) = ⟨(ad.add (i * 3)).block,(ad.add (i * 3)).off + 2,none⟩ by rw [HADB.out.1,HADB.out.2]] at hst
      rw [hZ] at hst
      have HST:=Lib.hid hst
      clear hst hZ
      go_wp2_with fail
      go_roundw
      case rel=>exact ⟨i + 1,_,by omega,by go_num,HST⟩
      case measure=>simp [intOf];omega
    ·have hiz : ¬ (i : Int) < (m : Int):=by omega
     have him : i = m:=by omega
     have hgl : g < wr.heap.size:=Nat.lt_of_lt_of_le HM.out.2.2.1 (Nat.le_trans H2.out.1.size HF.out.turn.size)
     have hsort:=sortS_any g off cap d' wr HF.out.holds hgl (by rw [HF.out.size];omega)
     rw [HF.out.size,<- HAD.out] at hsort
     have HTOLD:=Lib.hid (show ∀ s ∈ d'.toList,s.2.2.2.v = far pv s.2.2.1 from fun s hs=>by
      obtain ⟨j,hj,rfl⟩:=List.mem_iff_getElem.1 hs
      have hj' : j < d'.size:=by simpa using hj
      have:=HF.out.told j (by rw [him,<- HF.out.size];exact hj')
      rw [getElem!_pos d' j hj'] at this
      simpa using this)
     have HROW:=Lib.hid hrow
     have HI:=Lib.hid him
     clear hrow him hgl
     go_wp2_with fail
     refine hsort.mono ?_
     rintro e w5 ⟨d5,hd5⟩
     obtain rfl:=hd5.ret
     have hrow5 : Row w5 nb 228 [.int .i64 pid,.slice pA pn pc,.int .i64 0,.pointer none,.pointer none]:=HROW.out.keep (hd5.turn.block nb HROW.out.lt (fun e=>HX.out.1 e.symm))
     obtain ⟨k,hk⟩ : ∃ k,(m + 1) / 2 = k + 1:=⟨(m + 1) / 2 - 1,by omega⟩
     have hkm : k < m:=by omega
     have hs5 : d5.size = m:=hd5.size.trans HF.out.size
     obtain ⟨_,_,y2,_⟩:=Spot.cells hd5.holds (i:=k) (by rw [hs5];exact hkm) HAD.out
     have yl : (ad.add (k * 3)).block < w5.heap.size:=by rw [HAD.out,add_flat];exact Nat.lt_of_lt_of_le (Nat.lt_of_lt_of_le HM.out.2.2.1 (Nat.le_trans H2.out.1.size HF.out.turn.size)) hd5.turn.size
     have n2:=hrow5.cell (j:=2) rfl
     have nf2:=hrow5.frozen 2
     have nl5:=hrow5.lt
     have hq1 : ((m : Int) + 1).tdiv 2 = (k : Int) + 1:=by rw [Int.tdiv_eq_ediv_of_nonneg (by omega)];omega
     have hq2 : ((m : Int) + 1) / 2 = (k : Int) + 1:=by omega
     have hk1 : (k : Int) + 1 - 1 = (k : Int):=by omega
     have HD5:=Lib.hid (And.intro hd5 (And.intro hrow5 (And.intro hk hs5)))
     have hkz : (k : Int) < (m : Int):=by omega
     have hkcap : k + 1 < cap:=by omega
     clear hd5 hrow5 hk hs5 hsort
     obtain ⟨R,hR⟩ : ∃ R,R = d5[k]!.2.2.2:=⟨_,rfl⟩
     rw [<- hR] at y2
     have HRR:=Lib.hid hR
     clear hR
     go_wp2_with fail
     obtain ⟨W5,hW5⟩ : ∃ W5,W5 = w5.setCell ⟨nb,2,none⟩ (.int .i64 R.v):=⟨_,rfl⟩
     have hwnb : w.heap.size <= nb:=HX.out.2.2.2
     have T5 : Turn (fun b=>b = g) w (fun b=>b = g) W5:=by
      rw [hW5]
      exact Turn.setNew ((HT2.out.trans HF.out.turn).trans HD5.out.1.turn) hwnb _
     have OK5 : ∀ s ∈ d5.toList,OkS w G dim s /\ s.2.2.2.v = far pv s.2.2.1:=fun s hs=>by
      have hs':=HD5.out.1.perm.mem_iff.1 hs
      refine ⟨?_,HTOLD.out s hs'⟩
      obtain ⟨j,hj,rfl⟩:=List.mem_iff_getElem.1 hs'
      have hj' : j < d'.size:=by simpa using hj
      have hjm : j < m:=by rw [<- HF.out.size];exact hj'
      have e : d'.toList[j] = d'[j]!:=by rw [getElem!_pos d' j hj'];simp
      rw [e]
      have hs:=HF.out.same j hjm
      exact (HM.out.2.2.2.1 d[j]! (by rw [getElem!_pos d j (by have:=HM.out.1;omega)];simp)).congr hs.1 hs.2
     have hold5 : HoldsK scell 3 W5 g off d5:=holdsK_block HD5.out.1.holds (by rw [hW5];exact heap_set_ne _ _ _ HX.out.1)
     have hg5 : g < W5.heap.size:=Nat.lt_of_lt_of_le HM.out.2.2.1 T5.size
     have row5 : Row W5 nb 228 [.int .i64 pid,.slice pA pn pc,.int .i64 R.v,.pointer none,.pointer none]:=by rw [hW5];exact HD5.out.2.1.set 2 _
     have out5 : ∀ p : Addr,(p.off < off \/ off + m * 3 <= p.off) -> p.block < w.heap.size -> W5.cell? p = w.cell? p:=fun p hp hb=>by
      have b2:=HX.out.2.2.1 _ hb
      rw [hW5,World.cell?_setCell_other _ _ _ _ (fun e=>by subst e;simp only at hb;omega),HD5.out.1.out p (by rw [HF.out.size];exact hp) (Nat.lt_of_lt_of_le b2 HF.out.turn.size),HF.out.out p hp b2]
      exact H2.out.1.cell hb
     have fro5 : ∀ p : Addr,p.block < w.heap.size -> W5.frozen? p = w.frozen? p:=fun p hb=>by
      have b2:=HX.out.2.2.1 _ hb
      rw [hW5,World.frozen?_setCell,HD5.out.1.froz p (Nat.lt_of_lt_of_le b2 HF.out.turn.size),HF.out.froz p b2]
      exact World.frozen?_of_block (H2.out.1.block _ hb)
     have hs5:=HD5.out.2.2.2
     have hp1:=holdsK_part hold5 (Nat.zero_le (k + 1)) (by rw [hs5];omega)
     rw [show off + 0 * 3 = off by omega] at hp1
     have hih1:=HIH.out (k + 1) (by omega) (some ad) g off cap (d5.extract 0 (k + 1)) W5 G (by simp;omega) (by omega) hcap (fun _=>by rw [HAD.out]) hp1 hg5
      (fun s hs=>by
       obtain ⟨j,_,hj,rfl⟩:=mem_extract (by rw [hs5];omega) hs
       exact (OK5 _ (by rw [getElem!_pos d5 j (by omega)];simp)).1.turn T5 HM.out.2.2.2.2.1) HM.out.2.2.2.2.1 (fun b hb=>Nat.lt_of_lt_of_le (HM.out.2.2.2.2.2 b hb) T5.size)
     have H5:=Lib.hid (And.intro T5 (And.intro OK5 (And.intro hold5 (And.intro hg5 (And.intro row5 (And.intro out5 fro5))))))
     have HW5:=Lib.hid hW5.symm
     clear T5 OK5 hold5 hg5 row5 out5 fro5 hp1 hW5 n2 nf2 nl5 y2 yl hwnb
     rw [HW5.out]
     refine hih1.mono ?_
     rintro e w6 ⟨p1,N1,rfl,hgood1,hperm1,hnode1,hT6,hout6,hfro6⟩
     have row6 : Row w6 nb 228 [.int .i64 pid,.slice pA pn pc,.int .i64 R.v,.pointer none,.pointer none]:=H5.out.2.2.2.2.1.keep (hT6.block nb H5.out.2.2.2.2.1.lt (fun e=>HX.out.1 e.symm))
     have n3:=row6.cell (j:=3) rfl
     have nf3:=row6.frozen 3
     have nl6:=row6.lt
     have H6:=Lib.hid (And.intro hgood1 (And.intro hperm1 (And.intro hnode1 (And.intro hT6 (And.intro hout6 (And.intro hfro6 row6))))))
     clear hgood1 hperm1 hnode1 hT6 hout6 hfro6 row6 hih1
     have hrest : ¬ (cap = k + 1):=by omega
     go_wp2_with fail
     obtain ⟨W6,hW6⟩ : ∃ W6,W6 = w6.setCell ⟨nb,3,none⟩ (.pointer p1):=⟨_,rfl⟩
     obtain ⟨T5,OK5,hold5,hg5,row5,out5,fro5⟩:=H5.out
     obtain ⟨hgood1,hperm1,hnode1,hT6,hout6,hfro6,row6⟩:=H6.out
     have hs5:=HD5.out.2.2.2
     have hnb5 : nb < W5.heap.size:=row5.lt
     have hnG : ∀ b,(G b \/ W5.heap.size <= b) -> b ≠ nb:=fun b hb e=>by
      subst e
      rcases hb with hb | hb
      ·have:=HM.out.2.2.2.2.2 _ hb
       have:=HX.out.2.2.2
       omega
      ·omega
     have hnGg : ∀ b,(G b \/ W5.heap.size <= b) -> b ≠ g:=fun b hb e=>by
      subst e
      rcases hb with hb | hb
      ·exact HM.out.2.2.2.2.1 hb
      ·omega
     have T6 : Turn (fun b=>b = g) W5 (fun b=>b = g) w6:=hT6
     have T6w : Turn (fun b=>b = g) w (fun b=>b = g) W6:=by
      rw [hW6]
      exact Turn.setNew (T5.trans hT6) HX.out.2.2.2 _
     have hg6 : g < W6.heap.size:=Nat.lt_of_lt_of_le HM.out.2.2.1 T6w.size
     have s6 : W6.heap.size = w6.heap.size:=by rw [hW6];simp
     have row6' : Row W6 nb 228 [.int .i64 pid,.slice pA pn pc,.int .i64 R.v,.pointer p1,.pointer none]:=by rw [hW6];exact row6.set 3 _
     have node6 : NodeAt W6 (fun b=>G b \/ W5.heap.size <= b) (.pointer p1) N1:=hnode1.keep (fun b hb _=>by rw [hW6];exact heap_set_ne _ _ _ (hnG b hb)) (by rw [s6];exact Nat.le_refl _)
     have hp2 : HoldsK scell 3 W6 g (off + (k + 1) * 3) (d5.extract (k + 1) m):=by
      have h1:=holdsK_part hold5 (a:=k + 1) (b:=m) (by omega) (by omega)
      have h2:=holds_far (n:=m - (k + 1)) h1 (by simp;omega) hg5 hout6 hfro6
      exact holdsK_block h2 (by rw [hW6];exact heap_set_ne _ _ _ HX.out.1)
     have hih2:=HIH.out (m - (k + 1)) (by omega) (some (ad.add ((k + 1) * 3))) g (off + (k + 1) * 3) (cap - (k + 1)) (d5.extract (k + 1) m) W6 G (by simp;omega) (by omega) (by omega) (fun _=>by rw [HAD.out,add_flat]) hp2 hg6
      (fun s hs=>by
       obtain ⟨j,_,hj,rfl⟩:=mem_extract (by rw [hs5];omega) hs
       exact (OK5 _ (by rw [getElem!_pos d5 j (by omega)];simp)).1.turn T6w HM.out.2.2.2.2.1) HM.out.2.2.2.2.1 (fun b hb=>Nat.lt_of_lt_of_le (HM.out.2.2.2.2.2 b hb) T6w.size)
     have H7:=Lib.hid (And.intro T6w (And.intro row6' (And.intro node6 (And.intro s6 (And.intro hnG hnGg)))))
     have HW6:=Lib.hid hW6.symm
     clear T5 OK5 hold5 hg5 row5 out5 fro5 hgood1 hperm1 hnode1 hT6 hout6 hfro6 row6 T6 T6w hg6 s6 row6' node6 hp2 hW6 n3 nf3 nl6 hnG hnGg hnb5
     rw [HW6.out]
     refine hih2.mono ?_
     rintro e w7 ⟨p2,N2,rfl,hgood2,hperm2,hnode2,hT7,hout7,hfro7⟩
     have row7 : Row w7 nb 228 [.int .i64 pid,.slice pA pn pc,.int .i64 R.v,.pointer p1,.pointer none]:=H7.out.2.1.keep (hT7.block nb H7.out.2.1.lt (fun e=>HX.out.1 e.symm))
     have n4:=row7.cell (j:=4) rfl
     have nf4:=row7.frozen 4
     have nl7:=row7.lt
     have H8:=Lib.hid (And.intro hgood2 (And.intro hperm2 (And.intro hnode2 (And.intro hT7 (And.intro hout7 (And.intro hfro7 row7))))))
     clear hgood2 hperm2 hnode2 hT7 hout7 hfro7 row7 hih2
     go_wp2_with fail
     go_ret
     obtain ⟨T5,OK5,hold5,hg5,row5,out5,fro5⟩:=H5.out
     obtain ⟨hgood1,hperm1,hnode1,hT6,hout6,hfro6,row6⟩:=H6.out
     obtain ⟨hgood2,hperm2,hnode2,hT7,hout7,hfro7,row7⟩:=H8.out
     obtain ⟨T6w,row6',node6,s6,hnG,hnGg⟩:=H7.out
     have hwnb : w.heap.size <= nb:=HX.out.2.2.2
     have hnbW6 : nb < W6.heap.size:=row6'.lt
     have Tend : Turn (fun b=>b = g) w (fun b=>b = g) (w7.setCell ⟨nb,4,none⟩ (.pointer p2)):=Turn.setNew (T6w.trans hT7) hwnb _
     have rowE:=row7.set 4 (.pointer p2)
     have hP:=HP.out
     have hvE:=HOM.out.turn Tend HM.out.2.2.2.2.1
     have hvec:=hvE.vec
     have hwf:=hvE.wf
     have hokv:=hvE.ok
     have hlen:=hvE.len
     rw [<- hP] at hvec hwf hokv hlen
     have hRk : R = d5[k]!.2.2.2:=HRR.out
     have hs5':=HD5.out.2.2.2
     have told5 : ∀ j,j < m -> far pv d5[j]!.2.2.1 = d5[j]!.2.2.2.v:=fun j hj=>((OK5 _ (by rw [getElem!_pos d5 j (by omega)];simp)).2).symm
     have node1 : NodeAt (w7.setCell ⟨nb,4,none⟩ (.pointer p2)) (fun b=>G b \/ W5.heap.size <= b) (.pointer p1) N1 :=
      node6.keep (fun b hb hlt=>(heap_set_ne w7 _ _ (hnG b hb)).trans (hT7.block b hlt (hnGg b hb))) (by simpa using hT7.size)
     have node2 : NodeAt (w7.setCell ⟨nb,4,none⟩ (.pointer p2)) (fun b=>G b \/ W6.heap.size <= b) (.pointer p2) N2 :=
      hnode2.keep (fun b hb hlt=>heap_set_ne w7 _ _ (by
       rcases hb with hb | hb
       ·exact hnG b (.inl hb)
       ·exact fun e=>by
         have e : b = nb:=e
         have hb : W6.heap.size <= b:=hb
         omega)) (by simp)
     refine ⟨some ⟨nb,0,none⟩,.node pid pv R.v N1 N2,rfl,⟨hwf,hokv,hlen,R.lo,R.hi,fun e he=>?_,fun e he=>?_,hgood1,hgood2⟩,?_,?_,Tend,fun p hp hb=>?_,fun p hb=>?_⟩
     ·obtain ⟨s,hs,rfl⟩:=List.mem_map.1 (hperm1.mem_iff.1 he)
      obtain ⟨j,_,hj,rfl⟩:=mem_extract (by rw [hs5'];omega) hs
      show far pv d5[j]!.2.2.1 <= R.v
      rw [told5 j (by omega),hRk]
      rcases Nat.lt_or_ge j k with hjk | hjk
      ·exact HD5.out.1.rise j k hjk (by omega)
      ·rw [show j = k by omega]
       exact Int.le_refl _
     ·obtain ⟨s,hs,rfl⟩:=List.mem_map.1 (hperm2.mem_iff.1 he)
      obtain ⟨j,hj1,hj,rfl⟩:=mem_extract (by rw [hs5'];omega) hs
      show R.v <= far pv d5[j]!.2.2.1
      rw [told5 j (by omega),hRk]
      exact HD5.out.1.rise k j (by omega) (by omega)
     ·show ((pid,pv) :: (N1.ents ++ N2.ents)).Perm _
      rw [list_last d HM.out.1,List.map_append,<- map_start HM.out.1 HF.out.size (fun j hj=>(HF.out.same j hj).1)]
      have h1:=(hperm1.append hperm2)
      rw [<- List.map_append,<- list_split d5 (by omega) hs5'] at h1
      have h2:=h1.trans (HD5.out.1.perm.map bareS)
      refine (h2.cons _).trans ?_
      have e : [d[m]!].map bareS = [(pid,pv)]:=by rw [<- hP];rfl
      rw [e]
      exact (List.perm_append_comm (l₁:=[(pid,pv)]))
     ·refine ⟨nb,_,_,_,rfl,.inr hwnb,rowE,hvec.more (fun b hb _=>.inl hb),node1.more (fun b hb _=>?_),node2.more (fun b hb _=>?_)⟩
      ·exact hb.imp id (fun h=>Nat.le_trans T5.size h)
      ·exact hb.imp id (fun h=>Nat.le_trans T6w.size h)
     ·have b5:=Nat.lt_of_lt_of_le hb T5.size
      have b6:=Nat.lt_of_lt_of_le hb T6w.size
      rw [World.cell?_setCell_other _ _ _ _ (fun e=>by subst e;simp only at hb;omega),hout7 p (by omega) b6,<- HW6.out,World.cell?_setCell_other _ _ _ _ (fun e=>by subst e;simp only at hb;omega),hout6 p (by omega) b5]
      exact out5 p (by omega) hb
     ·have b5:=Nat.lt_of_lt_of_le hb T5.size
      have b6:=Nat.lt_of_lt_of_le hb T6w.size
      rw [World.frozen?_setCell,hfro7 p b6,<- HW6.out,World.frozen?_setCell,hfro6 p b5]
      exact fro5 p hb
end
end Go.Proofs.YtegjjhjgfkcbhaaGreatDoor
