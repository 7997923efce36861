/- WBuild WBld SKeptOf. Conditions: as each part says. -/
import Derived.Test.YtegjjhjgfkcbhaaGreatDoorQ31
import Derived.Test.YtegjjhjgfkcbhaaGreatDoorQ32
import Derived.Deep.OwnRows
import Derived.Test.YtegjjhjgfkcbhaaGreatDoorQ30
import Derived.MapFrom
import Derived.Test.YtegjjhjgfkcbhaaGreatDoorQ25
import Derived.Test.YtegjjhjgfkcbhaaGreatDoorQ41
set_option linter.unusedVariables false
set_option linter.unusedSimpArgs false
set_option maxRecDepth 100000
set_option maxHeartbeats 16000000
namespace Go.Proofs.YtegjjhjgfkcbhaaGreatDoor
section
open Go Go.RowKit Go.Maps
open Go.Sort (HoldsK)
theorem spot_row : (Tryz.prog.info? 236).map (fun i=>(i.zero,i.size,i.bytes)) = some (some (.agg #[.int .i64 0,.slice none 0 0,.int .i64 0]),3,40):=by kernel_rfl
theorem Pt.cells {w : World} {g : Nat} {d : Array Pt} (h : HoldsK pcell 2 w g 0 d) {i : Nat} (hi : i < d.size) {ad : Addr} (had : ad = ⟨g,0,none⟩) :
  w.cell? (ad.add (i * 2)) = some (.int .i64 d[i]!.1) /\ w.cell? ⟨(ad.add (i * 2)).block,(ad.add (i * 2)).off + 1,none⟩ = some (slcP d[i]!):=by
 subst had
 have h0:=h.cell (i:=i) (c:=0) hi (by omega)
 have h1:=h.cell (i:=i) (c:=1) hi (by omega)
 rw [add_flat]
 exact ⟨h0.1,h1.1⟩
structure OkPt (w : World) (G : Nat -> Prop) (dim : Nat) (s : Pt) : Prop where
 wf : (Lit.int .i64 s.1).wf = true
 ok : okV s.2.2 = true
 len : s.2.2.length = dim
 vec : VecIn w G (slcP s) s.2.2
theorem get_set (d' : Array Spot) (i : Nat) (x : Spot) (hi : i < d'.size) (j : Nat) : (d'.setIfInBounds i x)[j]! = if i = j then x else d'[j]!:=by
 by_cases hij : i = j
 ·subst hij
  rw [Go.Sort.getElem!_set_same d' i _ hi,if_pos rfl]
 ·rw [if_neg hij]
  by_cases hj : j < d'.size
  ·rw [getElem!_pos _ j (by simpa using hj),getElem!_pos d' j hj,Array.getElem_setIfInBounds,if_neg hij]
  ·rw [getElem!_neg _ j (by simpa using hj),getElem!_neg d' j hj]
structure CopyW (w2 wr : World) (g n : Nat) (l : Array Pt) (d' : Array Spot) (i : Nat) : Prop where
 holds : HoldsK scell 3 wr g 0 d'
 size : d'.size = n
 same : ∀ j : Nat,j < i -> bareS d'[j]! = bareP l[j]! /\ slcS d'[j]! = slcP l[j]!
 turn : Turn (fun b=>b = g) w2 (fun b=>b = g) wr
theorem CopyW.under {w2 wr w' : World} {g n : Nat} {l : Array Pt} {d' : Array Spot} {i : Nat} (h : CopyW w2 wr g n l d' i) (hg : g < wr.heap.size) (hb : Below wr.heap.size wr w') : CopyW w2 w' g n l d' i :=
 ⟨holdsK_block h.holds (hb.block g hg),h.size,h.same,h.turn.trans (Turn.below _ hb)⟩
theorem CopyW.step {w2 wr : World} {g n : Nat} {l : Array Pt} {d' : Array Spot} {i : Nat} (h : CopyW w2 wr g n l d' i) (hi : i < n) :
  CopyW w2 ((wr.setCell ⟨g,0 + i * 3 + 0,none⟩ (.int .i64 l[i]!.1)).setCell ⟨g,0 + i * 3 + 1,none⟩ (slcP l[i]!)) g n l
   ((d'.setIfInBounds i (l[i]!.1,d'[i]!.2.1,d'[i]!.2.2.1,d'[i]!.2.2.2)).setIfInBounds i (l[i]!.1,l[i]!.2.1,l[i]!.2.2,d'[i]!.2.2.2)) (i + 1):=by
 have hi' : i < d'.size:=by rw [h.size];exact hi
 have hi2 : i < (d'.setIfInBounds i (l[i]!.1,d'[i]!.2.1,d'[i]!.2.2.1,d'[i]!.2.2.2)).size:=by simpa using hi'
 have h1:=holdsK_set h.holds hi' (c0:=0) (by omega) (l[i]!.1,d'[i]!.2.1,d'[i]!.2.2.1,d'[i]!.2.2.2) (.int .i64 l[i]!.1) rfl (fun c h1 h2=>by
  rcases (show c = 1 \/ c = 2 by omega) with rfl | rfl <;> rfl)
 have h2:=holdsK_set h1 hi2 (c0:=1) (by omega) (l[i]!.1,l[i]!.2.1,l[i]!.2.2,d'[i]!.2.2.2) (slcP l[i]!) rfl (fun c h1 h2=>by
  rw [get_set d' i _ hi',if_pos rfl]
  rcases (show c = 0 \/ c = 2 by omega) with rfl | rfl <;> rfl)
 refine ⟨h2,by simpa using h.size,fun j hj=>?_,(h.turn.trans (Turn.set (fun b=>b = g) wr (a:=⟨g,0 + i * 3 + 0,none⟩) rfl _)).trans (Turn.set (fun b=>b = g) _ (a:=⟨g,0 + i * 3 + 1,none⟩) rfl _)⟩
 rw [get_set _ i _ hi2]
 by_cases hij : i = j
 ·subst hij
  rw [if_pos rfl]
  exact ⟨rfl,rfl⟩
 ·rw [if_neg hij,get_set d' i _ hi',if_neg hij]
  exact h.same j (by omega)
theorem made_spots (w : World) (n : Nat) : HoldsK scell 3 (w.alloc (.cells (madeCells #[.int .i64 0,.slice none 0 0,.int .i64 0] (n * 3)) 236)) w.heap.size 0 (Array.replicate n (default : Spot)):=by
 refine holdsK_of fun i c hi hc=>?_
 have hi' : i < n:=by simpa using hi
 have e : (Array.replicate n (default : Spot))[i]! = default:=by rw [getElem!_pos _ i hi];simp
 rw [e]
 have hb:=heap_alloc_new w (.cells (madeCells #[.int .i64 0,.slice none 0 0,.int .i64 0] (n * 3)) 236)
 have hm : (i * 3 + c) % 3 = c:=by omega
 have hlt : i * 3 + c < n * 3:=by omega
 refine ⟨?_,?_⟩
 ·simp only [World.cell?,hb]
  rw [show 0 + i * 3 + c = i * 3 + c by omega]
  have e2 : (madeCells #[.int .i64 0,.slice none 0 0,.int .i64 0] (n * 3))[i * 3 + c]? = some ((#[.int .i64 0,.slice none 0 0,.int .i64 0] : Array Value)[c]!):=by
   unfold madeCells
   rw [Array.getElem?_map,Array.getElem?_range,if_pos hlt,Option.map_some]
   show some ((#[.int .i64 0,.slice none 0 0,.int .i64 0] : Array Value)[(i * 3 + c) % 3]!) = _
   rw [hm]
  rw [e2]
  rcases (show c = 0 \/ c = 1 \/ c = 2 by omega) with rfl | rfl | rfl <;> rfl
 ·simp only [World.frozen?,hb]
  simp
def BuildPost (G : Nat -> Prop) (dim : Nat) (l : Array Pt) (w : World) (e : Ending) (w' : World) : Prop :=
 ∃ (p : Option Addr) (N : NT),e = .returned (.pointer p) /\ N.Good dim /\ N.ents.Perm (l.toList.map bareP) /\ NodeAt w' (fun b=>G b \/ w.heap.size <= b) (.pointer p) N /\ Below w.heap.size w w'
theorem build_any (dim g0 c n : Nat) (l : Array Pt) (w : World) (G : Nat -> Prop) (hn : l.size = n) (hn5 : n <= 512) (hH : HoldsK pcell 2 w g0 0 l) (hg0 : g0 < w.heap.size) (hok : ∀ p ∈ l.toList,OkPt w G dim p) (hGl : ∀ b,G b -> b < w.heap.size) :
  Calls Tryz.prog 119 #[.slice (some ⟨g0,0,none⟩) n c] w (BuildPost G dim l w):=by
 obtain ⟨i0,hi,hz0,hz1,hz2⟩:=info_parts spot_row
 have hmk:=fun (w : World)=>run_make (P:=Tryz.prog) w 234 236 i0 (.agg #[.int .i64 0,.slice none 0 0,.int .i64 0]) Tryz.underlying234 hi hz0 .i64 .i64 (n : Int) (n : Int) (by omega) (by omega) (by rw [hz2];omega) (by omega)
 have h01 : Int.toNat (n : Int) = n:=Int.toNat_natCast n
 simp only [h01] at hmk
 obtain ⟨W1,hW1⟩ : ∃ W1,W1 = w.alloc (.cells (madeCells #[.int .i64 0,.slice none 0 0,.int .i64 0] (n * 3)) 236):=⟨_,rfl⟩
 have hb1 : Below w.heap.size w W1:=by rw [hW1];exact (Below.refl _ w).alloc (Nat.le_refl _) _
 have s1 : W1.heap.size = w.heap.size + 1:=by rw [hW1];simp
 have hc0 : CopyW W1 W1 w.heap.size n l (Array.replicate n (default : Spot)) 0:=⟨by rw [hW1];exact made_spots w n,by simp,fun j hj=>absurd hj (by omega),Turn.refl _ _⟩
 have HC:=Lib.hid hc0
 have HW:=Lib.hid hW1.symm
 have H1:=Lib.hid (And.intro hb1 (And.intro s1 (And.intro hn (And.intro hH (And.intro hg0 (And.intro hok hGl))))))
 clear h01 hc0 hW1 hb1 s1 hn hH hok hGl
 obtain ⟨ad,had⟩ : ∃ ad : Addr,ad = ⟨g0,0,none⟩:=⟨_,rfl⟩
 rw [<- had]
 have HAD:=Lib.hid had
 clear had
 go_enter Tryz.func119,Tryz.ntmps119
 go_wp2_with fail
 rw [HW.out]
 obtain ⟨ae,hae⟩ : ∃ ae : Addr,ae = ⟨w.heap.size,0,none⟩:=⟨_,rfl⟩
 rw [<- hae]
 have HAE:=Lib.hid hae
 clear hae HW
 go_loopw [11] (fun vi wr=>∃ (i : Nat) (d' : Array Spot),i <= n /\ vi = .int .i64 i /\ Hid (CopyW W1 wr w.heap.size n l d' i)) (fun vi _=>n - (intOf vi).toNat)
 case atStart=>exact ⟨0,_,by omega,rfl,HC⟩
 case round =>
  obtain ⟨i,d',hi,rfl,HD⟩:=hrel
  clear HC
  have hgl : w.heap.size < wr.heap.size:=by have:=HD.out.turn.size;have:=H1.out.2.1;omega
  by_cases hlt : i < n
  ·have hiz : (i : Int) < (n : Int):=by omega
   have hHr : HoldsK pcell 2 wr g0 0 l:=holdsK_block H1.out.2.2.2.1 ((HD.out.turn.block g0 (by have:=H1.out.2.1;have:=H1.out.2.2.2.2.1;omega) (fun e=>by have:=H1.out.2.2.2.2.1;have e : g0 = w.heap.size:=e;omega)).trans (H1.out.1.block g0 H1.out.2.2.2.2.1))
   obtain ⟨x0,x1⟩:=Pt.cells hHr (i:=i) (by rw [H1.out.2.2.1];exact hlt) HAD.out
   obtain ⟨z0,z1,_,_⟩:=Spot.cells HD.out.holds (i:=i) (by rw [HD.out.size];exact hlt) HAE.out
   have f0 : wr.frozen? (ae.add (i * 3)) = false:=by
    have:=HD.out.holds.cell (i:=i) (c:=0) (by rw [HD.out.size];exact hlt) (by omega)
    rw [HAE.out,add_flat]
    exact this.2
   have f1 : wr.frozen? ⟨(ae.add (i * 3)).block,(ae.add (i * 3)).off + 1,none⟩ = false:=by
    have:=HD.out.holds.cell (i:=i) (c:=1) (by rw [HD.out.size];exact hlt) (by omega)
    rw [HAE.out,add_flat]
    exact this.2
   have cl : (ad.add (i * 2)).block < wr.heap.size:=lt_of_cell x0
   have cz : (ae.add (i * 3)).block < wr.heap.size:=lt_of_cell z0
   have hst:=(HD.out.under hgl ((Below.refl _ wr).alloc (Nat.le_refl _) (.cells #[.int .i64 l[i]!.1,slcP l[i]!] 104))).step hlt
   have haeb : (⟨w.heap.size,0 + i * 3 + 0,none⟩ : Addr) = ae.add (i * 3) /\ (⟨w.heap.size,0 + i * 3 + 1,none⟩ : Addr) = ⟨(ae.add (i * 3)).block,(ae.add (i * 3)).off + 1,none⟩:=by rw [HAE.out,add_flat];exact ⟨rfl,rfl⟩
   rw [haeb.1,haeb.2] at hst
   have HST:=Lib.hid hst
   clear hst haeb hHr
   unfold slcP slcS at *
   generalize hP : l[i]! = P at *
   generalize hQ : d'[i]! = Q at *
   have HPQ:=Lib.hid (And.intro hP hQ)
   clear hP hQ
   obtain ⟨pid,⟨pA,pn,pc⟩,pv⟩:=P
   obtain ⟨qid,⟨qA,qn,qc⟩,qv,qf⟩:=Q
   simp only at x0 x1 z0 z1
   have hz1 : ((wr.alloc (.cells #[.int .i64 pid,.slice pA pn pc] 104)).setCell (ae.add (i * 3)) (.int .i64 pid)).cell? ⟨(ae.add (i * 3)).block,(ae.add (i * 3)).off + 1,none⟩ = some (.slice qA qn qc):=by
    rw [World.cell?_setCell_other _ _ _ _ (fun e=>by
     have e2:=congrArg Addr.off e
     simp only at e2
     omega),World.cell?_alloc_lt _ _ _ (by exact cz)]
    exact z1
   have hf0 : (wr.alloc (.cells #[.int .i64 pid,.slice pA pn pc] 104)).frozen? (ae.add (i * 3)) = false:=(World.frozen?_of_block (heap_alloc_lt wr _ (by exact cz))).trans f0
   have hf1 : (wr.alloc (.cells #[.int .i64 pid,.slice pA pn pc] 104)).frozen? ⟨(ae.add (i * 3)).block,(ae.add (i * 3)).off + 1,none⟩ = false:=(World.frozen?_of_block (heap_alloc_lt wr _ (by exact cz))).trans f1
   go_wp2_with fail
   go_roundw
   case rel=>exact ⟨i + 1,_,by omega,by go_num,HST⟩
   case measure=>simp [intOf];omega
  ·have hiz : ¬ (i : Int) < (n : Int):=by omega
   have him : i = n:=by omega
   have hT : Turn (fun b=>b = w.heap.size) w (fun b=>b = w.heap.size) wr:=(Turn.below _ H1.out.1).trans HD.out.turn
   have hGg : ¬ G w.heap.size:=fun h=>by have:=H1.out.2.2.2.2.2.2 _ h;omega
   have hsz:=HD.out.size
   have hmap : d'.toList.map bareS = l.toList.map bareP:=by
    apply List.ext_getElem
    ·have:=H1.out.2.2.1
     simp
     omega
    ·intro j h1 h2
     have hj : j < n:=by simp at h1;omega
     have h3:=(HD.out.same j (by omega)).1
     rw [getElem!_pos d' j (by omega),getElem!_pos l j (by have:=H1.out.2.2.1;omega)] at h3
     simpa using h3
   have hsp:=split_any dim n (some ae) w.heap.size 0 n d' wr G hsz (Nat.le_refl _) (by omega) (fun _=>by rw [HAE.out]) HD.out.holds hgl (fun s hs=>by
    obtain ⟨j,hj,rfl⟩:=List.mem_iff_getElem.1 hs
    have hj' : j < d'.size:=by simpa using hj
    have e : d'.toList[j] = d'[j]!:=by rw [getElem!_pos d' j hj'];simp
    rw [e]
    have hjn : j < n:=by omega
    obtain ⟨h1,h2⟩:=HD.out.same j (by omega)
    have hp:=H1.out.2.2.2.2.2.1 l[j]! (by rw [getElem!_pos l j (by have:=H1.out.2.2.1;omega)];simp)
    have e1 : d'[j]!.1 = l[j]!.1:=congrArg (fun z : Pnt=>z.1) h1
    have e2 : d'[j]!.2.2.1 = l[j]!.2.2:=congrArg (fun z : Pnt=>z.2) h1
    have h0 : OkS w G dim d'[j]!:=⟨by rw [e1];exact hp.wf,by rw [e2];exact hp.ok,by rw [e2];exact hp.len,by rw [h2,e2];exact hp.vec⟩
    exact h0.turn hT hGg) hGg (fun b hb=>Nat.lt_of_lt_of_le (H1.out.2.2.2.2.2.2 b hb) hT.size)
   have HF:=Lib.hid (And.intro hT hmap)
   clear hT hGg hmap hsz
   go_wp2_with fail
   refine hsp.mono ?_
   rintro e w5 ⟨p,N,rfl,hgood,hperm,hnode,hT5,_,_⟩
   go_wp2_with fail
   go_ret
   exact ⟨p,N,rfl,hgood,by rw [<- HF.out.2];exact hperm,hnode.more (fun b hb _=>hb.imp id (fun h=>Nat.le_trans HF.out.1.size h)),(HF.out.1.trans hT5).down (fun b hb=>by rw [hb];exact Nat.le_refl _) (Nat.le_refl _)⟩
end
section
open Go Go.RowKit Go.Maps
open Go.Sort (HoldsK)
def metE (U : List Ent) (left : Lit -> Bool) : List Ent:=U.filter fun p=>!left (kl p.1)
theorem met_end {U : List Ent} {left : Lit -> Bool} (h : ∀ kl,left kl = false) : metE U left = U:=by
 unfold metE
 exact List.filter_eq_self.2 (fun p _=>by rw [h];rfl)
theorem met_start {U : List Ent} {left : Lit -> Bool} (h : ∀ p ∈ U,left (kl p.1) = true) : metE U left = []:=by
 unfold metE
 exact List.filter_eq_nil_iff.2 (fun p hp=>by rw [h p hp];simp)
theorem met_step : ∀ {U : List Ent} {left : Lit -> Bool} {p : Ent},Apart U -> p ∈ U -> left (kl p.1) = true -> (metE U (fun z=>left z && !z.sameKey (kl p.1))).Perm (p :: metE U left)
 | [],_,_,_,hp,_=>by simp at hp
 | q :: r,left,p,ha,hp,hl=>by
  obtain ⟨h1,h2⟩:=List.pairwise_cons.1 ha
  have hs : ∀ x,(kl x).sameKey (kl p.1) = decide (x = p.1):=fun x=>kl_same x p.1
  rcases List.mem_cons.1 hp with rfl | hp
  ·have e1 : metE (p :: r) (fun z=>left z && !z.sameKey (kl p.1)) = p :: metE r (fun z=>left z && !z.sameKey (kl p.1)):=by
    unfold metE
    rw [List.filter_cons,if_pos (by show (!(left (kl p.1) && !(kl p.1).sameKey (kl p.1))) = true;rw [hs];simp)]
   have e2 : metE (p :: r) left = metE r left:=by
    unfold metE
    rw [List.filter_cons,if_neg (by rw [hl];simp)]
   have e3 : metE r (fun z=>left z && !z.sameKey (kl p.1)) = metE r left:=by
    unfold metE
    refine List.filter_congr (fun x hx=>?_)
    show (!(left (kl x.1) && !(kl x.1).sameKey (kl p.1))) = !left (kl x.1)
    rw [hs,decide_eq_false (fun e=>h1 x hx e.symm)]
    simp
   rw [e1,e2,e3]
  ·have hne : q.1 ≠ p.1:=h1 p hp
   have ih:=met_step h2 hp hl
   have e0 : (!(left (kl q.1) && !(kl q.1).sameKey (kl p.1))) = !left (kl q.1):=by
    rw [hs,decide_eq_false hne]
    simp
   unfold metE at *
   rw [List.filter_cons,List.filter_cons,e0]
   by_cases hq : (!left (kl q.1)) = true
   ·rw [if_pos hq,if_pos hq]
    exact (ih.cons q).trans (List.Perm.swap ..)
   ·rw [if_neg hq,if_neg hq]
    exact ih
theorem met_no {B U : List Ent} {left : Lit -> Bool} {x : Int} (hl : left (kl x) = true) (hB : isId x B = false) : isId x (metE U left ++ B) = false:=by
 rw [Bool.eq_false_iff,Ne,isId_iff]
 rintro ⟨p,hp,e⟩
 rcases List.mem_append.1 hp with hp | hp
 ·have:=(List.mem_filter.1 hp).2
  rw [e,hl] at this
  cases this
 ·exact isId_no hB p hp e
theorem isId_perm {E E' : List Ent} (h : E.Perm E') (x : Int) : isId x E = isId x E':=by
 rw [Bool.eq_iff_iff,isId_iff,isId_iff]
 exact ⟨fun ⟨p,hp,e⟩=>⟨p,h.mem_iff.1 hp,e⟩,fun ⟨p,hp,e⟩=>⟨p,h.mem_iff.2 hp,e⟩⟩
theorem turn_iter {F : Nat -> Prop} {w wr w' : World} {r : Nat} (h : Turn F w F wr) (hg : wr.grownBy w' (some r)) (hr : w.heap.size <= r) : Turn F w F w' :=
 ⟨hg.os.trans h.os,hg.tape.trans h.tape,hg.output.trans h.output,Nat.le_trans h.size hg.size,fun b hb hf=>(hg.block b (Nat.lt_of_lt_of_le hb h.size) (by simp;omega)).trans (h.block b hb hf),h.foot⟩
def CopyPost (bm fm : Nat) (B U : List Ent) (w : World) (e : Ending) (w' : World) : Prop :=
 e = .returned (.tuple #[]) /\ Turn (fun b=>b = bm) w (fun b=>b = bm) w' /\ ∃ E,MapAt w' bm E /\ E.Perm (U ++ B)
theorem mcopy_any {w : World} {bm fm : Nat} {B U : List Ent} (hB : MapAt w bm B) (hU : MapAt w fm U) (hne : bm ≠ fm) (hap : ∀ p ∈ B,∀ q ∈ U,p.1 ≠ q.1) (hwf : ∀ p ∈ U,(Lit.int .i64 p.1).wf = true) (hlen : B.length + U.length <= 512) :
  Calls Tryz.prog 120 #[.map (some bm),.map (some fm)] w (CopyPost bm fm B U w):=by
 have hfl:=hU.lt
 have hbl:=hB.lt
 obtain ⟨D,hDo,hD⟩:=hU
 have HDM:=Lib.hid hD
 have HB:=Lib.hid (And.intro hB (And.intro hne (And.intro hap (And.intro hwf hlen))))
 clear hB hD hne hap hwf hlen
 go_enter Tryz.func120,Tryz.ntmps120
 go_wp2_with (first | (at_range;refine wpList_range_own _ rfl _ 169 rfl 3 27 law3 Tryz.underlying169 hR fm U.length D rfl hDo ?_;intro w4 hrg4 hg4 hs4) | go_in)
 go_frame
 have hb4 : Below w.heap.size w w4:=⟨hg4.os,hg4.tape,hg4.output,hg4.size,fun b hb=>hg4.block b hb (by simp)⟩
 have hd0 : metE U (Maps.has D) = []:=met_start (fun p hp=>by rw [HDM.out.has];exact (isId_iff _ _).2 ⟨p,hp,rfl⟩)
 have HST:=Lib.hid (show Turn (fun b=>b = bm) w (fun b=>b = bm) w4 /\ ∃ E,MapAt w4 bm E /\ E.Perm (metE U (Maps.has D) ++ B) from ⟨Turn.below _ hb4,B,HB.out.1.keep (hb4.block bm hbl),by rw [hd0];exact List.Perm.refl _⟩)
 clear hb4 hd0 hs4 hg4 hDo
 have hrr : w.heap.size <= w.heap.size:=Nat.le_refl _
 obtain ⟨r,hr⟩ : ∃ r,r = w.heap.size:=⟨_,rfl⟩
 rw [<- hr] at hrg4 ⊢
 have HR:=Lib.hid hr
 clear hr hrr
 go_loopw [4] (fun _ wr=>∃ (left : Lit -> Bool) (cnt : Nat),wr.ranges Tryz.prog 3 hR fm r U.length D left cnt /\ Hid (Turn (fun b=>b = bm) w (fun b=>b = bm) wr /\ ∃ E,MapAt wr bm E /\ E.Perm (metE U left ++ B)) /\ Hid (∀ z,left z = true -> Maps.has D z = true)) (fun _ wr=>wr.rangeLeft fm r)
 case atStart=>exact ⟨_,_,hrg4,HST,Lib.hid (fun _ h=>h)⟩
 case round =>
  obtain ⟨left,cnt,hrg,HRL,HL⟩:=hrel
  clear hrg4 HST
  go_wp2_with (at_next;refine wpList_next_ranges _ rfl _ rfl 3 law3 hR (Value.int .i64) id keyInv valInv fm r U.length D left cnt rfl hrg ?_ ?_)
  ·intro _ hl0
   have HRE:=Lib.hid HRL.out
   rw [met_end hl0] at HRE
   clear hrg hl0 HRL HL
   go_wp2_with fail
   first
    | go_end0
    | (refine bodyPost_ret (results_none rfl _ _ _) rfl ?_)
   exact ⟨rfl,HRE.out.1,HRE.out.2⟩
  ·intro x c0 kl0 d0 p0 w5 cnt5 hk0 hlk hcv hat hrg5 hlt5 hg5 hs5 hen
   obtain ⟨x',ex,rfl,hwx⟩:=Maps.keyOf_int_inv Tryz.underlying3 hk0
   injection ex with _ ex
   subst ex
   have hid : isId x U = true:=by
    have:=HL.out _ hlk
    rw [show (Lit.int IntKind.i64 x) = kl x from rfl,HDM.out.has] at this
    exact this
   obtain ⟨⟨y,u,l⟩,hp,hpx⟩:=(isId_iff _ _).1 hid
   have hpx : y = x:=hpx
   subst hpx
   have hcu : u = c0:=by
    have h1:=HDM.out.at_ _ hp (.held (.slice none 0 0))
    have h2:=hat (.held (.slice none 0 0))
    have h3:=h1.symm.trans h2
    have h4:=hR_inj hcv
    exact DataW.held.inj (h3.trans h4)
   subst hcu
   obtain ⟨hT,E,hE,hEp⟩:=HRL.out
   have hbr : bm ≠ r:=by have:=HR.out;omega
   have hfr : fm ≠ r:=by have:=HR.out;omega
   have hE5 : MapAt w5 bm E:=hE.keep (hg5.block bm hE.lt (by simpa using hbr))
   have hT5:=turn_iter hT hg5 (by rw [HR.out];exact Nat.le_refl _)
   have hno : isId y E = false:=by
    rw [isId_perm hEp]
    refine met_no hlk ?_
    rw [Bool.eq_false_iff,Ne,isId_iff]
    rintro ⟨q,hq,e⟩
    exact HB.out.2.2.1 q hq _ hp e
   have hEl : E.length <= 1000:=by
    rw [hEp.length_eq,List.length_append]
    have h1 : (metE U left).length <= U.length:=List.length_filter_le ..
    have:=HB.out.2.2.2.2
    omega
   have hds:=met_step (left:=left) HDM.out.apart hp hlk
   have hwy : (Lit.int .i64 y).wf = true:=HB.out.2.2.2.1 _ hp
   have hit5:=ranges_iter hrg5
   have HM:=Lib.hid (And.intro hlt5 (And.intro hrg.left_eq hrg5.left_eq))
   have H5:=Lib.hid (And.intro hrg5 (And.intro hit5 (And.intro hds (And.intro hT5 (And.intro hEp (And.intro HL.out (And.intro hbr hfr)))))))
   clear hid hcv hat hrg5 hit5 hg5 hs5 hlt5 hp hrg hk0 hwx HRL hlk HL hds hT hE hEp hT5 hbr hfr
   go_wp2_with (first | (refine wpList_ins rfl (.tmp 13) (.tmp 14) (.tmp 15) rfl bm E y _ l rfl hE5 hEl rfl rfl hwy hno ?_;intro w6 hE6 hg6) | go_in)
   have hrg6:=ranges_keep (w':=w6) H5.out.1 (hg6.block fm (by
     obtain ⟨es,clock,since,seen,c0,h1,_⟩:=H5.out.1
     exact (Array.getElem?_eq_some_iff.1 h1).1) (by have:=HB.out.2.1;simp;omega)) (hg6.block r (by
     obtain ⟨a1,a2,a3,a4,h5⟩:=H5.out.2.1
     exact (Array.getElem?_eq_some_iff.1 h5).1) (by have:=H5.out.2.2.2.2.2.2.1;simp;omega))
   have hT6 : Turn (fun b=>b = bm) w (fun b=>b = bm) w6:=H5.out.2.2.2.1.trans ⟨hg6.os,hg6.tape,hg6.output,hg6.size,fun b hb hf=>hg6.block b hb (by simpa using hf),fun b hb=>.inl hb⟩
   have HR6:=Lib.hid (show Turn (fun b=>b = bm) w (fun b=>b = bm) w6 /\ ∃ E,MapAt w6 bm E /\ E.Perm (metE U (fun z=>left z && !z.sameKey (kl y)) ++ B) from
    ⟨hT6,_,hE6,((H5.out.2.2.2.2.1.cons (y,u,l)).trans (H5.out.2.2.1.symm.append_right B))⟩)
   have HL6:=Lib.hid (show ∀ z,(left z && !z.sameKey (kl y)) = true -> Maps.has D z = true from fun z hz=>H5.out.2.2.2.2.2.1 z (by
    cases hc : left z
    ·rw [hc] at hz
     cases hz
    ·rfl))
   have HM7:=Lib.hid hrg6.left_eq
   have HRG:=Lib.hid hrg6
   clear hrg6 hT6 hE6 hg6 hE5
   go_wp2_with fail
   go_roundw
   case rel=>first | exact ⟨_,_,HRG.out,HR6,HL6⟩ | exact ⟨_,⟨_,HRG.out⟩,HR6,HL6⟩
   case measure =>
    rw [HM7.out,HM.out.2.1]
    exact HM.out.1
theorem clear_run {w : World} {b : Nat} {E : List Ent} (h : MapAt w b E) : ∃ w',(∀ ty : TypeId,(Builtin.clear_ #[169] ty #[.map (some b)]).run Tryz.prog w = .ok (.tuple #[]) w') /\ MapAt w' b [] /\ w.grownBy w' (some b):=by
 obtain ⟨D,⟨es,clock,hb,F,hs,hD⟩,hDE⟩:=h
 refine ⟨{ w with heap:=w.heap.setIfInBounds b (.map #[] clock) },?_,?_,?_⟩
 ·intro ty
  simp [Builtin.clear_,run_underlying Tryz.underlying169,Go.MapKept.run_getObj_map hb,Go.MapKept.run_setObj_map _ hb,Result.andThen]
 ·exact ⟨.map [],⟨#[],clock,(Go.MapKept.heap_set hb).1,⟨by simp,Go.MapKept.stamped_empty clock,by simp⟩,Nat.le_refl _,rfl⟩,MapIs.nil⟩
 ·exact ⟨rfl,rfl,rfl,by simp,fun k hk hne=>(Go.MapKept.heap_set hb).2 k (by simpa using hne)⟩
section
variable {w w' : World} {F : Nat -> Prop} {t bm fm dim : Nat} {rv : Value} {N : NT} {B U : List Ent}
theorem TreeW.rebuilt (h : TreeW w F t bm fm dim rv N B U) {T : List Pnt} (hT : T.Perm ((B ++ U).map bare)) (hr : Rise T) {w3 w6 : World} {p : Option Addr} {N' : NT} {E : List Ent}
  (hgood : N'.Good dim) (hperm : N'.ents.Perm T) (hnode : NodeAt w3 (fun b=>Core F t bm fm b \/ w.heap.size <= b) (.pointer p) N') (hb3 : Below w.heap.size w w3)
  (hk : ∀ b,b < w3.heap.size -> b ≠ t -> b ≠ bm -> b ≠ fm -> w6.heap[b]? = w3.heap[b]?) (hs : w3.heap.size <= w6.heap.size)
  (hbox : Row w6 t 171 [.pointer (some ⟨t,0,none⟩),.int .i64 (dim : Int),.pointer p,.map (some bm),.map (some fm)]) (hmb : MapAt w6 bm E) (hmf : MapAt w6 fm []) (hE : E.Perm (U ++ B)) :
  TreeW w6 (fun b=>F b \/ (w.heap.size <= b /\ b < w6.heap.size)) t bm fm dim (.pointer p) N' E []:=by
 have hmem : ∀ q ∈ E,q ∈ B ++ U:=fun q hq=>by
  rcases List.mem_append.1 (hE.mem_iff.1 hq) with h1 | h1
  ·exact List.mem_append_right _ h1
  ·exact List.mem_append_left _ h1
 have hct : ∀ b,w.heap.size <= b -> b ≠ t /\ b ≠ bm /\ b ≠ fm:=fun b hb=>⟨fun e=>by have:=h.lt t h.ft;omega,fun e=>by have:=h.lt bm h.fb;omega,fun e=>by have:=h.lt fm h.ff;omega⟩
 have hold : ∀ b,Core F t bm fm b -> b < w.heap.size -> w6.heap[b]? = w.heap[b]?:=fun b hb hlt=>(hk b (Nat.lt_of_lt_of_le hlt hb3.size) hb.2.1 hb.2.2.1 hb.2.2.2).trans (hb3.block b hlt)
 have hsz : w.heap.size <= w6.heap.size:=Nat.le_trans hb3.size hs
 have hmore : ∀ b,Core F t bm fm b -> b < w6.heap.size -> Core (fun b=>F b \/ (w.heap.size <= b /\ b < w6.heap.size)) t bm fm b:=fun b hb _=>⟨.inl hb.1,hb.2⟩
 refine ⟨hbox,hmb,hmf,h.dim1,h.dim2,fun q hq=>h.ok q (hmem q (by simpa using hq)),fun q hq=>((h.vec q (hmem q (by simpa using hq))).keep hold hsz).more hmore,fun q _ r hr'=>by simp at hr',?_,hgood,?_,fun q hq=>?_,?_,h.e1,h.e2,h.e3,.inl h.ft,.inl h.fb,.inl h.ff,fun b hb=>?_⟩
 ·refine (hnode.keep (w':=w6) (fun b hb hlt=>?_) hs).more (fun b hb hlt=>?_)
  ·rcases hb with hb | hb
   ·exact hk b hlt hb.2.1 hb.2.2.1 hb.2.2.2
   ·obtain ⟨h1,h2,h3⟩:=hct b hb
    exact hk b hlt h1 h2 h3
  ·rcases hb with hb | hb
   ·exact hmore b hb hlt
   ·exact ⟨.inr ⟨hb,hlt⟩,hct b hb⟩
 ·refine List.Pairwise.imp (fun h=>h) ((hperm.pairwise_iff (fun h e=>h e.symm)).2 (hr.imp (fun h e=>by omega)))
 ·refine hperm.mem_iff.2 (hT.mem_iff.2 ?_)
  exact List.mem_map_of_mem (hmem q hq)
 ·rw [hE.length_eq]
  have:=h.len
  simp
  omega
 ·rcases hb with hb | hb
  ·have:=h.lt b hb
   omega
  ·exact hb.2
def BldPost (F : Nat -> Prop) (t dim : Nat) (T : List Pnt) (w : World) (e : Ending) (w' : World) : Prop:=e = .returned (.int .i64 0) /\ ∃ F',Tree w' F' t dim T /\ Turn F w F' w'
theorem vbuild_any (h : TreeW w F t bm fm dim rv N B U) {T : List Pnt} (hT : T.Perm ((B ++ U).map bare)) (hr : Rise T) :
  Calls Tryz.prog 76 #[.pointer (some ⟨t,0,none⟩)] w (BldPost F t dim T w):=by
 have hg:=vgiven_any h
 have hall:=fun q=>vall_any (h.drewN q) hT hr
 have HT:=Lib.hid (And.intro h (And.intro hT hr))
 clear h hT hr
 go_enter Tryz.func76,Tryz.ntmps76
 go_wp2_with fail
 refine hg.mono ?_
 rintro e w1 ⟨rfl,q,rfl⟩
 clear hg
 go_wp2_with fail
 refine (hall q).mono ?_
 rintro e w2 ⟨g,c,d,rfl,hdc,hcm,hwg,hgl,hH,hdT,hvec,hb⟩
 have hb2 : Below w.heap.size w w2:=(below_drewN (Below.refl _ w) q).trans hb
 have h2:=HT.out.1.below hb2
 have hlen : d.size <= 512:=by
  have h1:=congrArg List.length hdT
  have h2:=HT.out.2.1.length_eq
  have h3:=HT.out.1.len
  simp at h1 h2
  omega
 have hbld:=build_any dim g c d.size d w2 (Core F t bm fm) rfl hlen hH hgl (fun p hp=>by
  have hm : bareP p ∈ T:=by rw [<- hdT];exact List.mem_map_of_mem hp
  obtain ⟨r,hr,e⟩:=List.mem_map.1 (HT.out.2.1.mem_iff.1 hm)
  have hok:=HT.out.1.ok r hr
  have e1 : r.1 = p.1:=congrArg (fun z : Pnt=>z.1) e
  have e2 : r.2.2 = p.2.2:=congrArg (fun z : Pnt=>z.2) e
  exact ⟨by rw [<- e1];exact hok.1,by rw [<- e2];exact hok.2.1,by rw [<- e2];exact hok.2.2,(hvec p hp).keep (w':=w2) (fun b _ hlt=>hb.block b hlt) hb.size⟩) (fun b hb'=>Nat.lt_of_lt_of_le (HT.out.1.lt b hb'.1) hb2.size)
 have H2:=Lib.hid (And.intro hb2 (And.intro h2 hdT))
 clear hall hdT hvec hb hH hb2 h2
 go_wp2_with fail
 refine hbld.mono ?_
 rintro e w3 ⟨p,N',rfl,hgood,hperm,hnode,hb3⟩
 have hb3w:=H2.out.1.trans (hb3.mono H2.out.1.size)
 have h3:=HT.out.1.below hb3w
 have c2:=h3.c2
 have f2:=h3.row.frozen 2
 have tl:=h3.tlt
 have H3:=Lib.hid (And.intro hgood (And.intro hperm (And.intro (hnode.more (G':=fun b=>Core F t bm fm b \/ w.heap.size <= b) (fun b hb _=>hb.imp id (fun h=>Nat.le_trans H2.out.1.size h))) (And.intro hb3w h3))))
 clear hgood hperm hnode hb3 hb3w h3 hbld
 go_wp2_with fail
 obtain ⟨W4,hW4⟩ : ∃ W4,W4 = w3.setCell ⟨t,2,none⟩ (.pointer p):=⟨_,rfl⟩
 have row4 : Row W4 t 171 [.pointer (some ⟨t,0,none⟩),.int .i64 (dim : Int),.pointer p,.map (some bm),.map (some fm)]:=by rw [hW4];exact H3.out.2.2.2.2.row.set 2 _
 have s4 : W4.heap.size = w3.heap.size:=by rw [hW4];simp
 have k4 : ∀ b,b ≠ t -> W4.heap[b]? = w3.heap[b]?:=fun b hb=>by rw [hW4];exact heap_set_ne _ _ _ hb
 have mb4 : MapAt W4 bm B:=H3.out.2.2.2.2.mb.keep (k4 bm (Ne.symm HT.out.1.e1))
 have mf4 : MapAt W4 fm U:=H3.out.2.2.2.2.mf.keep (k4 fm (Ne.symm HT.out.1.e2))
 have o4 : W4.os = w3.os /\ W4.tape = w3.tape /\ W4.output = w3.output:=by rw [hW4];exact ⟨rfl,rfl,rfl⟩
 have hcp:=mcopy_any (w:=W4.drew) (B:=B) (U:=U) mb4 mf4 HT.out.1.e3 HT.out.1.apart (fun p hp=>(HT.out.1.ok p (List.mem_append_right B hp)).1) HT.out.1.len
 have z3:=row4.cell (j:=3) rfl
 have z4:=row4.cell (j:=4) rfl
 have zl:=row4.lt
 have H4:=Lib.hid (And.intro row4 (And.intro s4 (And.intro k4 (And.intro mf4 o4))))
 have HW4:=Lib.hid hW4.symm
 clear row4 s4 k4 mb4 mf4 hW4 c2 f2 tl o4
 rw [HW4.out]
 go_still_tail 8,(by kernel_rfl)
 change wpList _ _ _ _ _ W4.drew
 go_wp2_with (go_at_call 120;refine hcp.mono ?_;rintro e w5 ⟨rfl,hT5,E,hE,hEp⟩;have row5 : Row w5 t 171 [.pointer (some ⟨t,0,none⟩),.int .i64 (dim : Int),.pointer p,.map (some bm),.map (some fm)]:=H4.out.1.keep (hT5.block t H4.out.1.lt HT.out.1.e1);obtain ⟨w6,hrun,hmf6,hg6⟩:=clear_run (H4.out.2.2.2.1.keep (hT5.block fm H4.out.2.2.2.1.lt (Ne.symm HT.out.1.e3)));have y4:=row5.cell (j:=4) rfl;have yl5:=row5.lt;have H5:=Lib.hid (And.intro hT5 (And.intro hE (And.intro hEp (And.intro row5 (And.intro hmf6 hg6)))));clear hT5 hE hEp row5 hmf6 hg6)
 go_ret
 obtain ⟨hT5,hE,hEp,row5,hmf6,hg6⟩:=H5.out
 obtain ⟨row4,s4,k4,mf4,o4⟩:=H4.out
 obtain ⟨hgood,hperm,hnode,hb3w,h3⟩:=H3.out
 have e1:=HT.out.1.e1
 have e2:=HT.out.1.e2
 have e3:=HT.out.1.e3
 have hk6 : ∀ b,b < w3.heap.size -> b ≠ t -> b ≠ bm -> b ≠ fm -> w6.heap[b]? = w3.heap[b]?:=fun b hb h1 h2 h3 =>
  ((hg6.block b (Nat.lt_of_lt_of_le (by show b < W4.heap.size;omega) hT5.size) (by simpa using h3)).trans (hT5.block b (by show b < W4.heap.size;omega) h2)).trans (k4 b h1)
 have hs6 : w3.heap.size <= w6.heap.size:=by
  have:=hT5.size
  have:=hg6.size
  have e : W4.drew.heap.size = W4.heap.size:=rfl
  omega
 have row6 : Row w6 t 171 [.pointer (some ⟨t,0,none⟩),.int .i64 (dim : Int),.pointer p,.map (some bm),.map (some fm)]:=row5.keep (hg6.block t row5.lt (by simpa using e2))
 have hE6 : MapAt w6 bm E:=hE.keep (hg6.block bm hE.lt (by simpa using e3))
 have hnew:=HT.out.1.rebuilt HT.out.2.1 HT.out.2.2 hgood (by rw [<- H2.out.2.2];exact hperm) hnode hb3w hk6 hs6 row6 hE6 hmf6 hEp
 refine ⟨rfl,_,⟨⟨bm,fm,_,_,_,_,hnew,?_⟩,HT.out.2.2⟩,?_⟩
 ·rw [List.append_nil]
  refine HT.out.2.1.trans ((List.Perm.map bare ?_))
  exact List.perm_append_comm.trans hEp.symm
 ·refine ⟨?_,?_,?_,Nat.le_trans hb3w.size hs6,fun b hb hf=>?_,fun b hb=>hb.imp id (fun h=>h.1)⟩
  ·exact hg6.os.trans (hT5.os.trans (o4.1.trans hb3w.os))
  ·exact hg6.tape.trans (hT5.tape.trans (o4.2.1.trans hb3w.tape))
  ·exact hg6.output.trans (hT5.output.trans (o4.2.2.trans hb3w.output))
  ·rw [hk6 b (Nat.lt_of_lt_of_le hb hb3w.size) (fun e=>hf (e ▸ HT.out.1.ft)) (fun e=>hf (e ▸ HT.out.1.fb)) (fun e=>hf (e ▸ HT.out.1.ff))]
   exact hb3w.block b hb
end
theorem t_build {w : World} {F : Nat -> Prop} {t dim : Nat} {T : List Pnt} (h : Tree w F t dim T) : Calls Tryz.prog 76 #[.pointer (some ⟨t,0,none⟩)] w (BldPost F t dim T w):=by
 obtain ⟨⟨bm,fm,rv,N,B,U,hm,hp⟩,hr⟩:=h
 exact vbuild_any hm hp hr
end
section
open Go Go.RowKit
def recAgg (r : Rec) (v : Value) : Value:=.agg #[.int .i64 r.kd,.int .i64 r.st,.int .i64 r.ep,.int .i64 r.mv,.int .i64 r.vr,.int .i64 r.dm,.int .i64 r.cl,.int .i64 r.sq,.string r.tb,v]
def RecPost (r : RK) (w : World) (e : Ending) (w' : World) : Prop:=∃ A n c l,e = .returned (recAgg r.rc (.slice A n c)) /\ Pts w' w'.heap.size A n l /\ l.map bareP = r.rc.ps /\ ((∀ ad,A = some ad -> w.heap.size <= ad.block) /\ ∀ q ∈ l,∀ ad,q.2.1.1 = some ad -> w.heap.size <= ad.block) /\ Below w.heap.size w w'
def RecsOf (rs : List RK) : Prop:=∀ r ∈ rs,∀ w,Calls Tryz.prog 103 #[.string ⟨r.bytes.toArray⟩] w (RecPost r w)
theorem kdo_rk {w : World} {F Ft : Nat -> Prop} {g t p : Nat} {k : KS} (h : KeptR w F Ft g t p k) (A : Option Addr) (n c : Nat) (l : List Pt) : ∀ (r : RK),(∀ m,r ≠ .pts m) -> r.May k -> Pts w w.heap.size A n l -> l.map bareP = r.rc.ps -> Away F l A ->
  Calls Tryz.prog 88 #[.pointer (some ⟨g,0,none⟩),recAgg r.rc (.slice A n c)] w (DoPost F g t (doK k r) w)
 | .pts m,hn,_,_,_,_=>absurd rfl (hn m)
 | .whole st ep mv vr dm q,_,hm,hP,hl,ha=>kdo_kwhole (RK.whole st ep mv vr dm q).rc _ rfl fun w' hb=>by
   obtain ⟨_,_,_,_,_,h6⟩:=hm
   have:=(Be.text_facts h6).2.2.2.2
   exact kwhole_any (h.below hb) (RK.whole st ep mv vr dm q).rc _ q (Be.ofM_text h6) (by
    show (Be.textB q).size <= 1000000000
    unfold Be.textB
    simp [ByteArray.size]
    omega)
 | .stand st ep mv,_,hm,hP,hl,ha=>kdo_kstand (RK.stand st ep mv).rc _ rfl fun w' hb=>by
   refine (kstand_any (h.below hb) (RK.stand st ep mv).rc _).mono ?_
   rintro e w2 ⟨rfl,h2,hT⟩
   exact ⟨rfl,_,_,_,h2,hT⟩
 | .ins cl sq x,_,hm,hP,hl,ha=>kdo_kins (RK.ins cl sq x).rc _ rfl fun w' hb=>by
   obtain ⟨h1,h2,h3,h4,h5,h6,h7⟩:=hm
   obtain ⟨q,rfl⟩ : ∃ q,l = [q]:=by
    have : l.length = 1:=by have:=congrArg List.length hl;simpa [RK.rc] using this
    exact List.length_eq_one_iff.1 this
   have hq : bareP q = x:=by simpa [RK.rc] using hl
   subst hq
   exact kins_any (h.below hb) h6 h7 (RK.ins cl sq (bareP q)).rc A n c q ((hP.below hb).more hb.size) ha h3 h4 h5
 | .drop cl sq x,_,hm,hP,hl,ha=>kdo_kdrop (RK.drop cl sq x).rc _ rfl fun w' hb=>by
   obtain ⟨h1,h2,h3,h6,h7⟩:=hm
   obtain ⟨q,rfl⟩ : ∃ q,l = [q]:=by
    have : l.length = 1:=by have:=congrArg List.length hl;simpa [RK.rc] using this
    exact List.length_eq_one_iff.1 this
   have hq : bareP q = (x,[]):=by simpa [RK.rc] using hl
   have hq1 : q.1 = x:=congrArg Prod.fst hq
   subst hq1
   exact kdrop_any (h.below hb) h6 h7 (RK.drop cl sq q.1).rc A n c q ((hP.below hb).more hb.size) ha h3
def KeptPost (dim : Nat) (rs : List RK) (w : World) (e : Ending) (w' : World) : Prop:=∃ g t p F Ft,e = .returned (.pointer (some ⟨g,0,none⟩)) /\ KeptR w' F Ft g t p (doL (ks0 dim) rs) /\ (∀ b,F b -> w.heap.size <= b) /\ Below w.heap.size w w'
theorem doL_take (k : KS) (rs : List RK) {i : Nat} (hi : i < rs.length) : doL k (rs.take (i + 1)) = doK (doL k (rs.take i)) rs[i]:=by
 rw [List.take_succ_eq_append_getElem hi,doL_app]
 rfl
theorem mayL_at {k : KS} : ∀ {rs : List RK} {i : Nat},MayL k rs -> (hi : i < rs.length) -> rs[i].May (doL k (rs.take i))
 | r :: rs,0,h,_=>h.1
 | r :: rs,i + 1,h,hi=>mayL_at (rs:=rs) (i:=i) h.2 (by simpa using hi)
theorem keptOf_any (dim : Nat) (h1 : 1 <= dim) (h2 : dim <= 16) (rs : List RK) (hm : MayL (ks0 dim) rs) (hnp : ∀ r ∈ rs,∀ m,r ≠ .pts m) (hrec : RecsOf rs) (A : Option Addr) (n c : Nat) (w : World) (hR : Reads w w.heap.size 1 A n (strL (rs.map RK.bytes))) (hn : n <= maxLen) :
  Calls Tryz.prog 55 #[.int .i64 (dim : Int),.slice A n c] w (KeptPost dim rs w):=by
 have hlen:=Lib.hid (show n = rs.length by have:=hR.1;simp [strL] at this;omega)
 have HM:=Lib.hid hm
 have HNP:=Lib.hid hnp
 have HRC:=Lib.hid hrec
 have HR:=Lib.hid hR
 have hnew:=Be.new_any w
 clear hm hnp hrec hR
 go_enter Tryz.func55,Tryz.ntmps55
 go_wp2_with fail
 refine hnew.mono ?_
 rintro e w1 ⟨p,rfl,ht1,hp1,hb1⟩
 obtain ⟨W,hW⟩ : ∃ W,w1.alloc (.cells #[.int .i64 (dim : Int),.int .i64 0,.int .i64 0,.int .i64 0,.int .i64 0,.pointer none,.pointer (some ⟨p,0,none⟩)] 97) = W:=⟨_,rfl⟩
 have hRw : Row W w1.heap.size 97 [.int .i64 (dim : Int),.int .i64 0,.int .i64 0,.int .i64 0,.int .i64 0,.pointer none,.pointer (some ⟨p,0,none⟩)]:=by rw [<- hW];exact Row.new w1 _ _
 have hbW : Below w1.heap.size w1 W:=by rw [<- hW];exact (Below.refl _ _).alloc (Nat.le_refl _) _
 have hWl:=Lib.hid hW
 have hv:=vnew_any dim W h1 h2
 have HV:=Lib.hid hv
 have HRw:=Lib.hid hRw
 have HB1:=Lib.hid hb1
 have HBW:=Lib.hid hbW
 have HT1:=Lib.hid ht1
 clear hW hv hRw hb1 hbW ht1 hnew
 go_wp2_with fail
 rw [hWl.out]
 refine HV.out.mono ?_
 rintro e w3 ⟨Ft,t,rfl,ht3,hF3,hb3⟩
 have hR3:=HRw.out.keep (hb3.block _ HRw.out.lt)
 have c5 : w3.cell? ⟨w1.heap.size,5,none⟩ = some (.pointer none):=hR3.cell rfl
 have z5:=hR3.frozen 5
 have gl3:=hR3.lt
 have HR3:=Lib.hid hR3
 have HT3:=Lib.hid ht3
 have HF3:=Lib.hid hF3
 have HB3:=Lib.hid hb3
 have HTp:=Lib.hid ((HT1.out.keep (HBW.out.block p HT1.out.row.lt)).keep (hb3.block p (Nat.lt_of_lt_of_le HT1.out.row.lt HBW.out.size)))
 clear hR3 ht3 hF3 hb3
 obtain ⟨V,hV⟩ : ∃ V,w3.setCell ⟨w1.heap.size,5,none⟩ (.pointer (some ⟨t,0,none⟩)) = V:=⟨_,rfl⟩
 have hs1:=HB1.out.size
 have hsW:=HBW.out.size
 have hs3:=HB3.out.size
 have hk0 : KeptR V (fun b=>w.heap.size <= b /\ b < V.heap.size) Ft w1.heap.size t p (ks0 dim):=by
  have hT : Turn (fun b=>b = w1.heap.size) w3 (fun b=>b = w1.heap.size) V:=by rw [<- hV];exact turn_one w1.heap.size w3 5 _
  have hVs : V.heap.size = w3.heap.size:=by rw [<- hV];simp
  have hpl:=HT1.out.row.lt
  have hgf : ∀ b,Ft b -> b ≠ w1.heap.size:=fun b hb e=>by have:=HF3.out b hb;have:=HRw.out.lt;omega
  refine ⟨by rw [<- hV];exact HR3.out.set 5 _,HT3.out.turn hT hgf,HTp.out.keep (hT.block p (by omega) (by omega)),⟨by omega,by omega⟩,⟨by omega,by omega⟩,fun b hb=>⟨by have:=HF3.out b hb;omega,by have:=HT3.out.lt b hb;omega⟩,fun hb=>hgf _ hb rfl,fun hb=>by have:=HF3.out p hb;omega,by omega,fun b hb=>hb.2⟩
 have hbV : Below w.heap.size w V:=by
  rw [<- hV]
  exact ((HB1.out.trans (HBW.out.mono hs1)).trans (HB3.out.mono (by omega))).setCell (by simpa using hs1) _
 have HVl:=Lib.hid hV
 have HK0:=Lib.hid hk0
 have HBV:=Lib.hid hbV
 clear hV hk0 hbV
 go_wp2_with fail
 rw [HVl.out]
 go_loopw [22] (fun i wr=>∃ (k : Nat) (F Ft' : Nat -> Prop) (p' : Nat),i = .int .i64 (k : Int) /\ k <= n /\ KeptR wr F Ft' w1.heap.size t p' (doL (ks0 dim) (rs.take k)) /\ (∀ b,F b -> w.heap.size <= b) /\ Below w.heap.size w wr) (fun i _=>n - (intOf i).toNat)
 case atStart=>exact ⟨0,_,_,p,rfl,Nat.zero_le _,HK0.out,fun b hb=>hb.1,HBV.out⟩
 case round =>
  obtain ⟨k,F,Ft',p',rfl,hk,hK,hF,hbr⟩:=hrel
  by_cases hlt : k < n
  ·as_aux_lemma =>
   have hltz : (k : Int) < (n : Int):=by omega
   have hkb : (k : Int) + 1 <= 9223372036854775807:=by unfold maxLen at hn;omega
   obtain ⟨ad,u,rfl,hadB,hu,hcu⟩:=(HR.out.below hbr).at_ hlt
   have hkr : k < rs.length:=by have:=hlen.out;omega
   have hu2 : u = .string ⟨(rs[k].bytes).toArray⟩:=by
    have : (strL (rs.map RK.bytes))[k]? = some (.string ⟨(rs[k].bytes).toArray⟩):=by simp [strL,hkr]
    exact Option.some.inj (hu.symm.trans this)
   subst hu2
   have hmem : rs[k] ∈ rs:=List.getElem_mem hkr
   have hmay:=mayL_at HM.out hkr
   have hstep:=doL_take (ks0 dim) rs hkr
   have hnp:=HNP.out _ hmem
   have hrc:=HRC.out _ hmem wr
   obtain ⟨r,hr⟩ : ∃ r,rs[k] = r:=⟨_,rfl⟩
   rw [hr] at hcu hmay hstep hnp hrc
   have HRC1:=Lib.hid hrc
   have HMY:=Lib.hid hmay
   have HST:=Lib.hid hstep
   have HNP1:=Lib.hid hnp
   have HK:=Lib.hid hK
   have HF:=Lib.hid hF
   have HBR:=Lib.hid hbr
   clear hu hr hmem hmay hstep hnp hrc hK hF hbr
   go_wp2_with fail
   refine HRC1.out.mono ?_
   rintro e w5 ⟨A5,n5,c5,l5,rfl,hP5,hl5,hf5,hb5⟩
   have haway : Away F l5 A5:=⟨fun ad h hF=>Nat.lt_irrefl _ (Nat.lt_of_lt_of_le (HK.out.lt _ hF) (hf5.1 ad h)),fun q hq ad h hF=>Nat.lt_irrefl _ (Nat.lt_of_lt_of_le (HK.out.lt _ hF) (hf5.2 q hq ad h))⟩
   have hdo:=kdo_rk (HK.out.below hb5) A5 n5 c5 l5 r HNP1.out HMY.out hP5 hl5 haway
   unfold recAgg at hdo
   have HDO:=Lib.hid hdo
   have HB5:=Lib.hid hb5
   clear hdo haway hP5 hl5 hf5 hb5
   unfold recAgg
   go_wp2_with fail
   refine HDO.out.mono ?_
   rintro e w6 ⟨rfl,F6,Ft6,p6,hK6,hT6⟩
   go_wp2_with fail
   have hb56 : Below w.heap.size w5 w6:=hT6.down HF.out (Nat.le_trans HBR.out.size HB5.out.size)
   refine ⟨⟨k + 1,F6,Ft6,p6,by go_num,by omega,by rw [HST.out];exact hK6,fun b hb=>?_,(HBR.out.trans (HB5.out.mono HBR.out.size)).trans hb56⟩,by simp [intOf];omega⟩
   rcases hT6.foot b hb with h | h
   ·exact HF.out b h
   ·have:=HBR.out.size
    have:=HB5.out.size
    omega
  ·as_aux_lemma =>
   obtain rfl : k = n:=by omega
   have htk : rs.take k = rs:=List.take_of_length_le (by have:=hlen.out;omega)
   rw [htk] at hK
   have c5:=hK.c5
   have gl:=hK.gl
   have HBL:=Lib.hid (t_build hK.tree)
   have HK:=Lib.hid hK
   have HF:=Lib.hid hF
   have HBR:=Lib.hid hbr
   clear htk hK hF hbr
   go_wp2_with fail
   refine HBL.out.mono ?_
   rintro e w7 ⟨rfl,Ft7,ht7,hT7⟩
   obtain ⟨hK7,hT7'⟩:=HK.out.atTree ht7 hT7
   go_wp2_with fail
   go_ret
   refine ⟨_,t,p',_,_,rfl,hK7,fun b hb=>?_,HBR.out.trans (hT7'.down HF.out HBR.out.size)⟩
   rcases hT7'.foot b hb with h | h
   ·exact HF.out b h
   ·have:=HBR.out.size
    omega
end
end Go.Proofs.YtegjjhjgfkcbhaaGreatDoor
