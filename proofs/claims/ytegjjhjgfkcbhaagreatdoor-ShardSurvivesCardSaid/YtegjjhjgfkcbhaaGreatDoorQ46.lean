/- SPtOf SRecM. Conditions: as each part says. -/
import Derived.Test.YtegjjhjgfkcbhaaGreatDoorQ22
import Derived.Test.YtegjjhjgfkcbhaaGreatDoorQ08
import Derived.Test.YtegjjhjgfkcbhaaGreatDoorQ10
import Derived.Test.YtegjjhjgfkcbhaaGreatDoorQ06
import Derived.Test.YtegjjhjgfkcbhaaGreatDoorQ23
set_option linter.unusedVariables false
set_option linter.unusedSimpArgs false
set_option maxRecDepth 100000
set_option maxHeartbeats 16000000
namespace Go.Proofs.YtegjjhjgfkcbhaaGreatDoor
section
open Go Go.RowKit
structure PtB (w0 wr : World) (x : Int) (l : List Int) (v : Value) (k : Nat) : Prop where
 res : Row wr w0.heap.size 104 [.int .i64 0,.slice none 0 0]
 pt : Row wr (w0.heap.size + 1) 104 [.int .i64 x,v]
 own : wr.ownsRow (w0.heap.size + 1 + 1) 3 1 v k (ints (l.take k))
 bel : Below w0.heap.size w0 wr
theorem own_far {w : World} {base e size n : Nat} {v : Value} {xs : List Value} (h : w.ownsRow base e size v n xs) : ∀ g,v.ownBlock = some g -> base <= g /\ g < w.heap.size:=Be.own_lt' h
theorem PtB.step {w0 wr w3 : World} {x y : Int} {l : List Int} {v v' : Value} {k : Nat} {o : Obj} (h : PtB w0 wr x l v k) (hk : k < l.length) (hy : l.getD k 0 = y) (hown : w3.ownsRow (w0.heap.size + 1 + 1) 3 1 v' (k + 1) (ints (l.take k) ++ [.int .i64 y])) (hg : (wr.alloc o).grownBy w3 v.ownBlock) :
  Row w3 (w0.heap.size + 1) 104 [.int .i64 x,v] /\ PtB w0 (w3.setCell ⟨w0.heap.size + 1,1,none⟩ v') x l v' (k + 1):=by
 have hl:=h.pt.lt
 have hf:=own_far h.own
 have hb1 : ∀ b,b <= w0.heap.size + 1 -> w3.heap[b]? = wr.heap[b]?:=fun b hb=>by
  refine (hg.block b (by simp;omega) (fun e=>?_)).trans (heap_alloc_lt _ _ (by omega))
  have:=hf b e.symm
  omega
 have hp3 : Row w3 (w0.heap.size + 1) 104 [.int .i64 x,v]:=h.pt.keep (hb1 _ (Nat.le_refl _))
 have hr3 : Row w3 w0.heap.size 104 [.int .i64 0,.slice none 0 0]:=h.res.keep (hb1 _ (Nat.le_succ _))
 have hs3 : wr.heap.size <= w3.heap.size:=by have:=hg.size;simp at this;omega
 have hbel : Below w0.heap.size w0 w3:=(h.bel.alloc h.bel.size o).grown hg (by simp;omega) (fun g e=>by have:=hf g e;omega)
 have hgs : w3.grownBy (w3.setCell ⟨w0.heap.size + 1,1,none⟩ v') (some (w0.heap.size + 1)):=Be.grown_setCell (Be.grown_below (Below.refl _ _) _) _ rfl _
 refine ⟨hp3,hr3.keep (heap_set_ne _ _ _ (by simp)),hp3.set 1 v',?_,hbel.setCell (by simp) _⟩
 have ht : ints (l.take (k + 1)) = ints (l.take k) ++ [.int .i64 y]:=by
  rw [List.take_succ_eq_append_getElem hk,<- hy,List.getD_eq_getElem?_getD,List.getElem?_eq_getElem hk]
  unfold ints
  rw [List.map_append]
  rfl
 rw [ht]
 refine hown.kept hgs ?_
 cases hv : v'.ownBlock with
 | none=>exact .inl rfl
 | some g =>
  have:=own_far hown g hv
  exact .inr (fun e=>by cases e;omega)
def PtPost (x : Int) (l : List Int) (w : World) (e : Ending) (w' : World) : Prop:=∃ A c,e = .returned (.agg #[.int .i64 x,.slice A l.length c]) /\ Reads w' w'.heap.size 1 A l.length (ints l) /\ (∀ ad,A = some ad -> w.heap.size <= ad.block) /\ Below w.heap.size w w'
theorem tN_at {ok : Nat -> Prop} {w : World} {A : Option Addr} {x : Int} {l : List Int} {xs : List Value} (hr : Be.ReadsP ok w 4 A (l.length + 1) xs) (hl : Be.RdL ok w (Be.tN x :: l.map Be.tN) xs) : ∃ b o,A = some ⟨b,o,none⟩ /\ b < w.heap.size /\ w.cell? ⟨b,o + 1,none⟩ = some (.int .i64 x) /\
  ∀ k,k < l.length -> ∃ A' c',w.cell? ⟨b,o + (k + 1) * 4,none⟩ = some (.int .i64 1) /\ w.cell? ⟨b,o + (k + 1) * 4 + 1,none⟩ = some (.int .i64 (l.getD k 0)) /\ w.cell? ⟨b,o + (k + 1) * 4 + 2,none⟩ = some (.string .empty) /\ w.cell? ⟨b,o + (k + 1) * 4 + 3,none⟩ = some (.slice A' 0 c'):=by
 have hr' : Be.ReadsP ok w 4 A (Be.tN x :: l.map Be.tN).length xs:=by simpa using hr
 obtain ⟨b,o,A0,c0,rfl,_,hb,_,_,e0,e1,e2,e3⟩:=Be.elem_at hr' hl (k:=0) (by simp)
 refine ⟨b,o,rfl,hb,by simpa [Be.tN,Be.T.n] using e1,fun k hk=>?_⟩
 obtain ⟨b',o',A1,c1,he,_,_,_,_,f0,f1,f2,f3⟩:=Be.elem_at hr' hl (k:=k + 1) (by simpa using hk)
 cases he
 have hg : l.getD k 0 = l[k]:=by rw [List.getD_eq_getElem?_getD,List.getElem?_eq_getElem hk];rfl
 rw [hg]
 refine ⟨A1,c1,?_,?_,?_,?_⟩
 ·simpa [Be.tN,Be.T.k] using f0
 ·simpa [Be.tN,Be.T.n] using f1
 ·simpa [Be.tN,Be.T.s] using f2
 ·simpa [Be.tN,Be.T.l] using f3
theorem ptOf_any (x : Int) (l : List Int) (A : Option Addr) (c : Nat) (ok : Nat -> Prop) (xs : List Value) (w : World) (hr : Be.ReadsP ok w 4 A (l.length + 1) xs) (hl : Be.RdL ok w (Be.tN x :: l.map Be.tN) xs) (hc : l.length + 1 <= c) (hcm : c <= maxLen) (hn : l.length <= 1000) :
  Calls Tryz.prog 146 #[.slice A (l.length + 1) c] w (PtPost x l w):=by
 obtain ⟨b,o,rfl,hb,e1,hel⟩:=tN_at hr hl
 obtain ⟨W,hW⟩ : ∃ W,(w.alloc (.cells #[.int .i64 0,.slice none 0 0] 104)).alloc (.cells #[.int .i64 x,.slice none 0 0] 104) = W:=⟨_,rfl⟩
 have hP0 : PtB w W x l (.slice none 0 0) 0:=by
  rw [<- hW]
  refine ⟨(Row.new w 104 [.int .i64 0,.slice none 0 0]).keep (heap_alloc_lt _ _ (by simp)),?_,World.ownsRow_nil ..,((Below.refl _ _).alloc (Nat.le_refl _) _).alloc (by simp) _⟩
  have:=Row.new (w.alloc (.cells #[.int .i64 0,.slice none 0 0] 104)) 104 [.int .i64 x,.slice none 0 0]
  rw [World.size_alloc] at this
  exact this
 have HP0:=Lib.hid hP0
 have HWl:=Lib.hid hW
 have HE:=Lib.hid hel
 have HBl:=Lib.hid hb
 obtain ⟨n,hln⟩ : ∃ n,n = l.length:=⟨_,rfl⟩
 have HLn:=Lib.hid hln
 have hn' : n <= 1000:=by omega
 have hc' : n + 1 <= c:=by omega
 have hle : (n + 1 : Nat) <= c:=hc'
 rw [<- hln]
 clear hP0 hW hel hr hl hln hn hc
 go_enter Tryz.func146,Tryz.ntmps146
 go_wp2_with fail
 case inl =>
  rw [HWl.out]
  clear e1 hle
  go_loopw [14] (fun vi wr=>∃ (k : Nat) (v : Value),vi = .int .i64 (k : Int) /\ k <= n /\ PtB w wr x l v k) (fun vi _=>n - (intOf vi).toNat)
  case atStart=>exact ⟨0,_,rfl,Nat.zero_le _,HP0.out⟩
  case round =>
   obtain ⟨k,v,rfl,hk,hP⟩:=hrel
   by_cases hlt : k < n
   ·exfalso
    omega
   ·obtain rfl : k = n:=by omega
    obtain ⟨A2,c2,rfl,hc21,hc22⟩:=Be.own_shape hP.own
    have p0 : wr.cell? ⟨w.heap.size + 1,0,none⟩ = some (.int .i64 x):=hP.pt.cell rfl
    have p1 : wr.cell? ⟨w.heap.size + 1,1,none⟩ = some (.slice A2 k c2):=hP.pt.cell rfl
    have pl:=hP.pt.lt
    have r0 : wr.cell? ⟨w.heap.size,0,none⟩ = some (.int .i64 0):=hP.res.cell rfl
    have r1 : wr.cell? ⟨w.heap.size,1,none⟩ = some (.slice none 0 0):=hP.res.cell rfl
    have z0:=hP.res.frozen 0
    have z1:=hP.res.frozen 1
    have rl:=hP.res.lt
    have HP:=Lib.hid hP
    clear hP
    go_wp2_with fail
    obtain ⟨V,hV⟩ : ∃ V,(wr.setCell ⟨w.heap.size,0,none⟩ (.int .i64 x)).setCell ⟨w.heap.size,1,none⟩ (.slice A2 k c2) = V:=⟨_,rfl⟩
    have hrV : Row V w.heap.size 104 [.int .i64 x,.slice A2 k c2]:=by rw [<- hV];exact (HP.out.res.set 0 (.int .i64 x)).set 1 (.slice A2 k c2)
    have hsz:=HP.out.bel.size
    have hbV : Below w.heap.size w V:=by rw [<- hV];exact (HP.out.bel.setCell (Nat.le_refl _) _).setCell (Nat.le_refl _) _
    have hgV : wr.grownBy V (some w.heap.size):=by rw [<- hV];exact Be.grown_setCell (R:=w.heap.size) (Be.grown_setCell (R:=w.heap.size) (Be.grown_below (Below.refl _ wr) _) ⟨w.heap.size,0,none⟩ rfl (.int .i64 x)) ⟨w.heap.size,1,none⟩ rfl (.slice A2 k c2)
    have k0:=hrV.cell (j:=0) (u:=.int .i64 x) rfl
    have k1:=hrV.cell (j:=1) (u:=.slice A2 k c2) rfl
    rw [hV]
    refine bodyPost_ret (v:=.agg #[.int .i64 x,.slice A2 k c2]) (by simp [results,Tryz.results146,go_sem,k0,k1]) rfl ?_
    have hown : V.ownsRow (w.heap.size + 1 + 1) 3 1 (.slice A2 k c2) k (ints (l.take k)):=HP.out.own.kept hgV (by
     cases hv : (Value.slice A2 k c2).ownBlock with
     | none=>exact .inl rfl
     | some g =>
      have:=own_far HP.out.own g hv
      exact .inr (fun e=>by cases e;omega))
    have hrd:=Reads.of_own hown
    have hke:=HLn.out
    rw [List.take_of_length_le (by omega)] at hrd
    refine ⟨A2,c2,by rw [<- hke],by rw [<- hke];exact hrd,fun ad e=>?_,hbV⟩
    subst e
    have:=own_far hown ad.block rfl
    omega
 case inr =>
  rw [HWl.out]
  clear e1 hle
  go_loopw [14] (fun vi wr=>∃ (k : Nat) (v : Value),vi = .int .i64 (k : Int) /\ k <= n /\ PtB w wr x l v k) (fun vi _=>n - (intOf vi).toNat)
  case atStart=>exact ⟨0,_,rfl,Nat.zero_le _,HP0.out⟩
  case round =>
   obtain ⟨k,v,rfl,hk,hP⟩:=hrel
   by_cases hlt : k < n
   ·have hkl : k < l.length:=by have:=HLn.out;omega
    have hltz : (k : Int) < (n : Int):=by omega
    obtain ⟨A',c',f0,f1,f2,f3⟩:=HE.out k hkl
    rw [show o + (k + 1) * 4 = o + 4 + k * 4 by omega] at f0 f1 f2 f3
    have d0:=(hP.bel.cell (p:=⟨b,o + 4 + k * 4,none⟩) HBl.out).trans f0
    have d1:=(hP.bel.cell (p:=⟨b,o + 4 + k * 4 + 1,none⟩) HBl.out).trans f1
    have d2:=(hP.bel.cell (p:=⟨b,o + 4 + k * 4 + 2,none⟩) HBl.out).trans f2
    have d3:=(hP.bel.cell (p:=⟨b,o + 4 + k * 4 + 3,none⟩) HBl.out).trans f3
    have hbl : b < wr.heap.size:=Nat.lt_of_lt_of_le HBl.out hP.bel.size
    obtain ⟨y,hy⟩ : ∃ y,l.getD k 0 = y:=⟨_,rfl⟩
    rw [hy] at d1
    have p1 : wr.cell? ⟨w.heap.size + 1,1,none⟩ = some v:=hP.pt.cell rfl
    have pl:=hP.pt.lt
    have HP:=Lib.hid hP
    have HY:=Lib.hid hy
    have hown : (wr.alloc (.cells #[.int .i64 1,.int .i64 y,.string .empty,.slice A' 0 c'] 202)).ownsRow (w.heap.size + 1 + 1) 3 1 v k (ints (l.take k)):=hP.own.kept (Be.grown_below ((Below.refl _ _).alloc (Nat.le_refl _) _) none) (by
     cases hv : v.ownBlock with
     | none=>exact .inl rfl
     | some g=>exact .inr (by simp))
    have HOW:=Lib.hid hown
    clear f0 f1 f2 f3 hP hy hown
    go_wp2_with (at_builtin;refine append_int rfl (.tmp 19) (.tmp 22) rfl (w.heap.size + 1 + 1) v k (ints (l.take k)) y rfl HOW.out (wr.heap.size + 1) (by simp) rfl (by omega) (by simp;omega) ?_;intro v2 w3 hown2 hgr2;obtain ⟨A2,c2,rfl,hc21,hc22⟩:=Be.own_shape hown2;have hst:=HP.out.step hkl HY.out hown2 hgr2;have q1:=hst.1.cell (j:=1) (u:=v) rfl;have qz:=hst.1.frozen 1;have ql:=hst.1.lt;have HST:=Lib.hid hst;clear hst hown2 hgr2 d0 d1 d2 d3 p1 pl hbl)
    exact ⟨⟨k + 1,_,by go_num,by omega,HST.out.2⟩,by simp [intOf];omega⟩
   ·obtain rfl : k = n:=by omega
    obtain ⟨A2,c2,rfl,hc21,hc22⟩:=Be.own_shape hP.own
    have p0 : wr.cell? ⟨w.heap.size + 1,0,none⟩ = some (.int .i64 x):=hP.pt.cell rfl
    have p1 : wr.cell? ⟨w.heap.size + 1,1,none⟩ = some (.slice A2 k c2):=hP.pt.cell rfl
    have pl:=hP.pt.lt
    have r0 : wr.cell? ⟨w.heap.size,0,none⟩ = some (.int .i64 0):=hP.res.cell rfl
    have r1 : wr.cell? ⟨w.heap.size,1,none⟩ = some (.slice none 0 0):=hP.res.cell rfl
    have z0:=hP.res.frozen 0
    have z1:=hP.res.frozen 1
    have rl:=hP.res.lt
    have HP:=Lib.hid hP
    clear hP
    go_wp2_with fail
    obtain ⟨V,hV⟩ : ∃ V,(wr.setCell ⟨w.heap.size,0,none⟩ (.int .i64 x)).setCell ⟨w.heap.size,1,none⟩ (.slice A2 k c2) = V:=⟨_,rfl⟩
    have hrV : Row V w.heap.size 104 [.int .i64 x,.slice A2 k c2]:=by rw [<- hV];exact (HP.out.res.set 0 (.int .i64 x)).set 1 (.slice A2 k c2)
    have hsz:=HP.out.bel.size
    have hbV : Below w.heap.size w V:=by rw [<- hV];exact (HP.out.bel.setCell (Nat.le_refl _) _).setCell (Nat.le_refl _) _
    have hgV : wr.grownBy V (some w.heap.size):=by rw [<- hV];exact Be.grown_setCell (R:=w.heap.size) (Be.grown_setCell (R:=w.heap.size) (Be.grown_below (Below.refl _ wr) _) ⟨w.heap.size,0,none⟩ rfl (.int .i64 x)) ⟨w.heap.size,1,none⟩ rfl (.slice A2 k c2)
    have k0:=hrV.cell (j:=0) (u:=.int .i64 x) rfl
    have k1:=hrV.cell (j:=1) (u:=.slice A2 k c2) rfl
    rw [hV]
    refine bodyPost_ret (v:=.agg #[.int .i64 x,.slice A2 k c2]) (by simp [results,Tryz.results146,go_sem,k0,k1]) rfl ?_
    have hown : V.ownsRow (w.heap.size + 1 + 1) 3 1 (.slice A2 k c2) k (ints (l.take k)):=HP.out.own.kept hgV (by
     cases hv : (Value.slice A2 k c2).ownBlock with
     | none=>exact .inl rfl
     | some g =>
      have:=own_far HP.out.own g hv
      exact .inr (fun e=>by cases e;omega))
    have hrd:=Reads.of_own hown
    have hke:=HLn.out
    rw [List.take_of_length_le (by omega)] at hrd
    refine ⟨A2,c2,by rw [<- hke],by rw [<- hke];exact hrd,fun ad e=>?_,hbV⟩
    subst e
    have:=own_far hown ad.block rfl
    omega
end
section
open Go Go.RowKit
def setN (kd : Int) (ns : List Int) : Nat -> List Value
 | 0=>[.int .i64 kd,.int .i64 0,.int .i64 0,.int .i64 0,.int .i64 0,.int .i64 0,.int .i64 0,.int .i64 0,.string ⟨#[]⟩,.slice none 0 0]
 | k + 1=>(setN kd ns k).set ((idxs kd).getD k 0) (.int .i64 (ns.getD k 0))
theorem setN_other {kd : Int} {ns : List Int} {j : Nat} : ∀ {k : Nat},(∀ i,i < k -> (idxs kd).getD i 0 ≠ j) -> (setN kd ns k)[j]? = (setN kd ns 0)[j]?
 | 0,_=>rfl
 | k + 1,h=>by
  show ((setN kd ns k).set ((idxs kd).getD k 0) (.int .i64 (ns.getD k 0)))[j]? = _
  rw [List.getElem?_set_ne (h k (Nat.lt_succ_self k)),setN_other fun i hi=>h i (Nat.lt_succ_of_lt hi)]
theorem idxs_cases (kd : Int) : idxs kd = [1,2,3,4,5] \/ idxs kd = [1,2,3] \/ idxs kd = [6,7] \/ idxs kd = []:=by
 unfold idxs
 split
 ·exact .inl rfl
 ·split
  ·exact .inr (.inl rfl)
  ·split
   ·exact .inr (.inr (.inl rfl))
   ·exact .inr (.inr (.inr rfl))
theorem setN_at {kd : Int} {ns : List Int} {k : Nat} (hk : k < (idxs kd).length) : (setN kd ns k)[(idxs kd).getD k 0]? = some (.int .i64 0):=by
 have h1 : ∀ i,i < k -> (idxs kd).getD i 0 ≠ (idxs kd).getD k 0:=by
  rcases idxs_cases kd with e | e | e | e <;> rw [e] at hk ⊢ <;> simp at hk
  ·intro i hi
   rcases (show k = 0 \/ k = 1 \/ k = 2 \/ k = 3 \/ k = 4 by omega) with rfl | rfl | rfl | rfl | rfl
   ·omega
   ·obtain rfl : i = 0:=by omega
    decide
   ·rcases (show i = 0 \/ i = 1 by omega) with rfl | rfl <;> decide
   ·rcases (show i = 0 \/ i = 1 \/ i = 2 by omega) with rfl | rfl | rfl <;> decide
   ·rcases (show i = 0 \/ i = 1 \/ i = 2 \/ i = 3 by omega) with rfl | rfl | rfl | rfl <;> decide
  ·intro i hi
   rcases (show k = 0 \/ k = 1 \/ k = 2 by omega) with rfl | rfl | rfl
   ·omega
   ·obtain rfl : i = 0:=by omega
    decide
   ·rcases (show i = 0 \/ i = 1 by omega) with rfl | rfl <;> decide
  ·intro i hi
   rcases (show k = 0 \/ k = 1 by omega) with rfl | rfl
   ·omega
   ·obtain rfl : i = 0:=by omega
    decide
 rw [setN_other h1]
 rcases idxs_cases kd with e | e | e | e <;> rw [e] at hk ⊢ <;> simp at hk
 ·rcases (show k = 0 \/ k = 1 \/ k = 2 \/ k = 3 \/ k = 4 by omega) with rfl | rfl | rfl | rfl | rfl <;> rfl
 ·rcases (show k = 0 \/ k = 1 \/ k = 2 by omega) with rfl | rfl | rfl <;> rfl
 ·rcases (show k = 0 \/ k = 1 by omega) with rfl | rfl <;> rfl
theorem setN_end : ∀ r : RK,setN r.rc.kd r.rc.nums (idxs r.rc.kd).length = rcl { r.rc with tb:=.empty,ps:=[] } (.slice none 0 0)
 | .whole ..=>rfl
 | .pts ..=>rfl
 | .stand ..=>rfl
 | .ins ..=>rfl
 | .drop ..=>rfl
theorem nums_idxs : ∀ r : RK,r.rc.nums.length = (idxs r.rc.kd).length
 | .whole ..=>rfl
 | .pts ..=>rfl
 | .stand ..=>rfl
 | .ins ..=>rfl
 | .drop ..=>rfl
end
end Go.Proofs.YtegjjhjgfkcbhaaGreatDoor
