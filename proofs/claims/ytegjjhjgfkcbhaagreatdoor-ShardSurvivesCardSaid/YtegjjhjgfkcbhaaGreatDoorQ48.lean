/- WPts SSame8 SPtsF. Conditions: as each part says. -/
import Derived.Test.YtegjjhjgfkcbhaaGreatDoorQ31
import Derived.Test.YtegjjhjgfkcbhaaGreatDoorQ30
set_option linter.unusedVariables false
set_option linter.unusedSimpArgs false
set_option maxRecDepth 100000
set_option maxHeartbeats 16000000
namespace Go.Proofs.YtegjjhjgfkcbhaaGreatDoor
section
open Go Go.RowKit Go.Maps
open Go.Sort (HoldsK)
def PtsPost (T : List Pnt) (w : World) (e : Ending) (w' : World) : Prop:=∃ A n c l,e = .returned (.slice A n c) /\ Pts w' w'.heap.size A n l /\ n <= 512 /\ l.map bareP = T /\ Below w.heap.size w w'
structure Half (s g : Nat) (w wr : World) (d d' : Array Pt) : Prop where
 holds : HoldsK pcell 2 wr g 0 d'
 size : d'.size = d.size
 same : ∀ j : Nat,bareP d'[j]! = bareP d[j]!
 vec : ∀ j,j < d'.size -> VecIn wr (fun b=>b ≠ g) (slcP d'[j]!) d'[j]!.2.2
 below : Below s w wr
 lt : g < wr.heap.size
 le : s <= g
theorem Half.under {s g : Nat} {w wr w' : World} {d d' : Array Pt} (h : Half s g w wr d d') (hb : Below wr.heap.size wr w') : Half s g w w' d d' :=
 ⟨holdsK_block h.holds (hb.block g h.lt),h.size,h.same,fun j hj=>(h.vec j hj).keep (fun b _ hb'=>hb.block b hb') hb.size,h.below.trans (hb.mono (by have:=h.le;have:=h.lt;omega)),Nat.lt_of_lt_of_le h.lt hb.size,h.le⟩
theorem Half.step {s g : Nat} {w wr : World} {d d' : Array Pt} (h : Half s g w wr d d') {i : Nat} (hi : i < d'.size) {A : Option Addr} {c n : Nat} (hv : VecIn wr (fun b=>b ≠ g) (.slice A n c) d'[i]!.2.2) :
  Half s g w (wr.setCell ⟨g,i * 2 + 1,none⟩ (.slice A n c)) d (d'.setIfInBounds i (d'[i]!.1,(A,n,c),d'[i]!.2.2)):=by
 have hg : ∀ j : Nat,(d'.setIfInBounds i (d'[i]!.1,(A,n,c),d'[i]!.2.2))[j]! = if i = j then (d'[i]!.1,(A,n,c),d'[i]!.2.2) else d'[j]!:=fun j=>by
  by_cases hij : i = j
  ·subst hij
   rw [Go.Sort.getElem!_set_same d' i _ hi,if_pos rfl]
  ·rw [if_neg hij]
   by_cases hj : j < d'.size
   ·rw [getElem!_pos _ j (by simpa using hj),getElem!_pos d' j hj,Array.getElem_setIfInBounds,if_neg hij]
   ·rw [getElem!_neg _ j (by simpa using hj),getElem!_neg d' j hj]
 have hk : ∀ b,b ≠ g -> b < wr.heap.size -> (wr.setCell ⟨g,i * 2 + 1,none⟩ (.slice A n c)).heap[b]? = wr.heap[b]?:=fun b hb _=>heap_set_ne wr _ _ hb
 refine ⟨?_,by simpa using h.size,fun j=>?_,fun j hj=>?_,below_setCell h.below h.le _,by simpa using h.lt,h.le⟩
 ·have:=holdsK_set h.holds hi (c0:=1) (by omega) (d'[i]!.1,(A,n,c),d'[i]!.2.2) (.slice A n c) rfl (fun c1 h1 h2=>by
   obtain rfl : c1 = 0:=by omega
   rfl)
  rwa [show 0 + i * 2 + 1 = i * 2 + 1 by omega] at this
 ·rw [hg]
  by_cases hij : i = j
  ·subst hij
   rw [if_pos rfl]
   exact h.same i
  ·rw [if_neg hij]
   exact h.same j
 ·rw [hg]
  by_cases hij : i = j
  ·subst hij
   rw [if_pos rfl]
   exact hv.keep hk (by simp)
  ·rw [if_neg hij]
   exact (h.vec j (by simpa using hj)).keep hk (by simp)
section
variable {w w' : World} {F : Nat -> Prop} {t bm fm dim : Nat} {rv : Value} {N : NT} {B U : List Ent}
theorem map_same {d d' : Array Pt} (hs : d'.size = d.size) (h : ∀ j : Nat,bareP d'[j]! = bareP d[j]!) : d'.toList.map bareP = d.toList.map bareP:=by
 apply List.ext_getElem
 ·simpa using hs
 ·intro j h1 h2
  have:=h j
  have e1 : j < d'.size:=by simpa using h1
  have e2 : j < d.size:=by simpa using h2
  rw [getElem!_pos d' j e1,getElem!_pos d j e2] at this
  simpa using this
theorem vpts_any (h : TreeW w F t bm fm dim rv N B U) {T : List Pnt} (hT : T.Perm ((B ++ U).map bare)) (hr : Rise T) :
  Calls Tryz.prog 51 #[.pointer (some ⟨t,0,none⟩)] w (PtsPost T w):=by
 have hg:=vgiven_any h
 have hall:=fun q=>vall_any (h.drewN q) hT hr
 have HT:=Lib.hid (And.intro h (And.intro hT hr))
 clear h hT hr
 go_enter Tryz.func51,Tryz.ntmps51
 go_wp2_with fail
 refine hg.mono ?_
 rintro e w1 ⟨rfl,q,rfl⟩
 clear hg
 go_wp2_with fail
 refine (hall q).mono ?_
 rintro e w2 ⟨g,c,d,rfl,hdc,hcm,hwg,hgl,hH,hdT,hvec,hb⟩
 have hlen : d.size <= 512:=by
  have h1:=congrArg List.length hdT
  have h2:=HT.out.2.1.length_eq
  have h3:=HT.out.1.len
  simp at h1 h2
  omega
 have hok : ∀ j : Nat,j < d.size -> (Lit.int .i64 (bareP d[j]!).1).wf = true /\ okV (bareP d[j]!).2 = true:=fun j hj=>by
  have hm : bareP d[j]! ∈ T:=by
   rw [<- hdT,getElem!_pos d j hj]
   exact List.mem_map_of_mem (by simp)
  obtain ⟨r,hr,e⟩:=List.mem_map.1 (HT.out.2.1.mem_iff.1 hm)
  have:=HT.out.1.ok r hr
  rw [<- e]
  exact ⟨this.1,this.2.1⟩
 have hHalf : Half w.heap.size g w w2 d d:=⟨hH,rfl,fun _=>rfl,fun j hj=>by
  have h1:=hvec d[j]! (by rw [getElem!_pos d j hj];simp)
  have hcore : ∀ b,Core F t bm fm b -> b < w.heap.size:=fun b hb'=>HT.out.1.lt b hb'.1
  exact ((h1.keep (w':=w2) (fun b hb' hlt=>by rw [hb.block b (by exact hlt)]) hb.size).more (fun b hb' _=>by have:=hcore b hb';show b ≠ g;have : (w.drewN q).heap.size = w.heap.size:=rfl;omega)),(below_drewN (Below.refl _ w) q).trans hb,hgl,hwg⟩
 have HH:=Lib.hid hHalf
 have HOK:=Lib.hid (And.intro hdT hok)
 clear hall hHalf hok hdT hvec hb hH
 obtain ⟨n,hn⟩ : ∃ n,n = d.size:=⟨_,rfl⟩
 rw [<- hn] at hlen hdc ⊢
 have HN:=Lib.hid hn
 clear hn
 obtain ⟨ad,had⟩ : ∃ ad : Addr,ad = ⟨g,0,none⟩:=⟨_,rfl⟩
 rw [<- had]
 have HAD:=Lib.hid had
 clear had
 go_wp2_with fail
 go_loopw [12] (fun vi wr=>∃ (i : Nat) (d' : Array Pt),i <= n /\ vi = .int .i64 i /\ Hid (Half w.heap.size g w wr d d')) (fun vi _=>n - (intOf vi).toNat)
 case atStart=>exact ⟨0,d,by omega,rfl,HH⟩
 case round =>
  obtain ⟨i,d',hi,rfl,HD⟩:=hrel
  clear HH
  by_cases hlt : i < n
  ·have hiz : (i : Int) < (n : Int):=by omega
   have hid' : i < d'.size:=by rw [HD.out.size,<- HN.out];exact hlt
   obtain ⟨_,_⟩:=HD.out.holds.cell (i:=i) (c:=1) hid' (by omega)
   have x1 : wr.cell? ⟨(ad.add (i * 2)).block,(ad.add (i * 2)).off + 1,none⟩ = some (slcP d'[i]!) /\ wr.frozen? ⟨(ad.add (i * 2)).block,(ad.add (i * 2)).off + 1,none⟩ = false:=by
    have:=HD.out.holds.cell (i:=i) (c:=1) hid' (by omega)
    rw [HAD.out,add_flat]
    rw [show (0 + i * 2) + 1 = 0 + i * 2 + 1 by omega]
    exact this
   obtain ⟨x1,x2⟩:=x1
   have hvi:=HD.out.vec i hid'
   have hoki:=HOK.out.2 i (by rw [<- HN.out];exact hlt)
   rw [<- HD.out.same i] at hoki
   have HD2:=HD
   obtain ⟨av,cv,hev,hgv,hlv,hcv⟩:=hvi
   rw [hev] at x1
   have hok2:=(okV_iff _).1 hoki.2
   have hl16 : d'[i]!.2.2.length <= 16:=hok2.2.1
   have hl1 : 1 <= d'[i]!.2.2.length:=hok2.1
   have hcl:=icloned av cv wr.heap.size d'[i]!.2.2 wr ⟨by rw [ints_len];omega,fun _=>⟨av,rfl,hlv,hcv⟩⟩ (Nat.le_refl _) (by omega)
   have cl : (ad.add (i * 2)).block < wr.heap.size:=by rw [block_of_add,HAD.out];exact HD.out.lt
   have HL1:=Lib.hid hl1
   clear hcv hlv hgv hev hoki hok2
   generalize hln : d'[i]!.2.2.length = ln at *
   have HLN:=Lib.hid hln
   clear hln
   have hadb : (ad.add (i * 2)).block = g /\ (ad.add (i * 2)).off = i * 2:=by rw [HAD.out,add_flat];exact ⟨rfl,by simp⟩
   have HADB:=Lib.hid hadb
   clear hadb
   go_wp2_with fail
   refine hcl.mono ?_
   rintro e w3 ⟨v3,rfl,hown3,hb3⟩
   have HD3:=HD.out.under hb3
   have hv3 : VecIn w3 (fun b=>b ≠ g) v3 d'[i]!.2.2:=vec_of_own (by rw [HLN.out];exact hown3) (by rw [HLN.out];exact HL1.out) (fun b h1 _=>by have:=HD.out.lt;show b ≠ g;omega)
   obtain ⟨A3,c3,rfl,_,_⟩:=own_shape hown3
   have HV3:=Lib.hid hv3
   have HD3':=Lib.hid HD3
   have y1 : w3.cell? ⟨(ad.add (i * 2)).block,(ad.add (i * 2)).off + 1,none⟩ = some (.slice (some av) ln cv):=by
    rw [hb3.cell (by exact cl)]
    exact x1
   have y2 : w3.frozen? ⟨(ad.add (i * 2)).block,(ad.add (i * 2)).off + 1,none⟩ = false:=by
    rw [<- x2]
    exact World.frozen?_of_block (hb3.block _ (by exact cl))
   have cl3 : (ad.add (i * 2)).block < w3.heap.size:=Nat.lt_of_lt_of_le cl hb3.size
   clear HD3 hv3 hown3 x1 x2 hb3 cl hcl
   go_wp2_with fail
   go_roundw
   case rel =>
    have:=HD3'.out.step hid' HV3.out
    rw [show (⟨g,i * 2 + 1,none⟩ : Addr) = ⟨(ad.add (i * 2)).block,(ad.add (i * 2)).off + 1,none⟩ by rw [HADB.out.1,HADB.out.2]] at this
    exact ⟨i + 1,_,by omega,by go_num,Lib.hid this⟩
   case measure=>simp [intOf];omega
  ·have hiz : ¬ (i : Int) < (n : Int):=by omega
   go_wp2_with fail
   go_ret
   have hs : d'.size = n:=by rw [HD.out.size,<- HN.out]
   refine ⟨some ad,n,c,d'.toList,rfl,?_,hlen,?_,HD.out.below⟩
   ·refine ⟨?_,fun p hp=>?_⟩
    ·have:=reads_holds (enc:=pcell) (k:=2) (fun _=>rfl) HD.out.holds HD.out.lt
     rw [hs] at this
     rw [HAD.out]
     exact this
    ·obtain ⟨j,hj,rfl⟩:=List.mem_iff_getElem.1 hp
     have hj' : j < d'.size:=by simpa using hj
     have e : d'.toList[j] = d'[j]!:=by rw [getElem!_pos d' j hj'];simp
     rw [e]
     obtain ⟨a1,c1,e1,_,hl1,hc1⟩:=HD.out.vec j hj'
     have hok:=HOK.out.2 j (by rw [<- HN.out,<- hs];exact hj')
     rw [<- HD.out.same j] at hok
     unfold slcP at e1
     injection e1 with e2 e3 e4
     have h16:=((okV_iff _).1 hok.2).2.1
     have h16' : d'[j]!.2.2.length <= 16:=h16
     refine ⟨⟨⟨by rw [ints_len,e3];omega,fun _=>⟨a1,e2,hl1,hc1⟩⟩,by rw [e3];unfold maxLen;omega⟩,hok.1⟩
   ·rw [map_same HD.out.size HD.out.same]
    exact HOK.out.1
end
end
section
open Go Go.RowKit Go.Maps
theorem ptAt_bare {l l' : List Pt} (he : l.map bareP = l'.map bareP) (k : Nat) (h1 : k < l.length) (h2 : k < l'.length) : (ptAt l k).1 = (ptAt l' k).1 /\ (ptAt l k).2.2 = (ptAt l' k).2.2:=by
 have e:=congrArg (fun z=>z[k]?) he
 simp only [List.getElem?_map,List.getElem?_eq_getElem h1,List.getElem?_eq_getElem h2,Option.map_some] at e
 have e : bareP l[k] = bareP l'[k]:=Option.some.inj e
 unfold ptAt
 rw [List.getD_eq_getElem?_getD,List.getD_eq_getElem?_getD,List.getElem?_eq_getElem h1,List.getElem?_eq_getElem h2]
 exact ⟨congrArg (fun z : Pnt=>z.1) e,congrArg (fun z : Pnt=>z.2) e⟩
theorem q8same_any (A A' : Option Addr) (n m c c' B B' : Nat) (l l' : List Pt) (w : World) (h : Pts w B A n l) (h' : Pts w B' A' m l') (hB : B <= w.heap.size) (hB' : B' <= w.heap.size) (hm : n <= 1000000) (he : l.map bareP = l'.map bareP) :
  Calls Tryz.prog 20 #[.slice A n c,.slice A' m c'] w (Says (.bool true) w):=by
 have e1:=h.len
 have e2:=h'.len
 have e3 : l.length = l'.length:=by have:=congrArg List.length he;simpa using this
 obtain rfl : n = m:=by omega
 have HE:=Lib.hid he
 have HP:=Lib.hid h
 have HP':=Lib.hid h'
 have HL:=Lib.hid (And.intro e1 e2)
 clear e1 e2 e3 he h h'
 go_enter Tryz.func20,Tryz.ntmps20
 go_wp2_with fail
 go_loopw [5] (fun vi wr=>∃ (i q : Nat),i <= n /\ vi = .int .i64 i /\ wr = w.drewN q) (fun vi _=>n - (intOf vi).toNat)
 case atStart=>exact ⟨0,0,by omega,rfl,rfl⟩
 case round =>
  obtain ⟨i,q,hi,rfl,rfl⟩:=hrel
  by_cases hlt : i < n
  ·have hiz : (i : Int) < (n : Int):=by omega
   obtain ⟨ad,hA,hab,hil,x0,x1,hg⟩:=HP.out.at_ hlt
   obtain ⟨ad',hA',hab',hil',y0,y1,hg'⟩:=HP'.out.at_ hlt
   subst hA hA'
   obtain ⟨s1,s2⟩:=ptAt_bare HE.out i hil hil'
   generalize ptAt l i = P at *
   generalize ptAt l' i = P' at *
   obtain ⟨px,⟨pA,pn,pc⟩,pl⟩:=P
   obtain ⟨py,⟨qA,qn,qc⟩,ql⟩:=P'
   simp only at s1 s2 x0 x1 y0 y1
   subst s1 s2
   have r1:=hg.1.1
   have r2:=hg'.1.1
   simp only at r1 r2
   have k1 : pn <= maxLen:=hg.1.2
   obtain rfl : pn = qn:=by have a:=r1.len;have b:=r2.len;omega
   unfold maxLen at k1
   have R1:=Lib.hid r1
   have R2:=Lib.hid r2
   have cl : (ad.add (i * 2)).block < w.heap.size:=by rw [block_of_add];omega
   have cl' : (ad'.add (i * 2)).block < w.heap.size:=by rw [block_of_add];omega
   clear r1 r2 hg hg' hab hab' hil hil'
   have hn0 : ((pn : Int) != (pn : Int)) = false:=by simp
   go_wp2_with fail
   go_quiet (fail)
   go_wp2_with fail
   go_loopw [6] (fun vk wr=>∃ (k q' : Nat),k <= pn /\ vk = .int .i64 k /\ wr = w.drewN q') (fun vk _=>pn - (intOf vk).toNat)
   case atStart=>exact ⟨0,_,by omega,rfl,by first | rfl | exact World.drewN_drewN ..⟩
   case round =>
    obtain ⟨k,q',hk,rfl,rfl⟩:=hrel
    by_cases hkl : k < pn
    ·have hkz : (k : Int) < (pn : Int):=by omega
     obtain ⟨b1,hb1,hbl1,z1⟩:=R1.out.int_at hkl
     obtain ⟨b2,hb2,hbl2,z2⟩:=R2.out.int_at hkl
     subst hb1 hb2
     have g1 : (b1.add k).block < w.heap.size:=by rw [block_of_add];omega
     have g2 : (b2.add k).block < w.heap.size:=by rw [block_of_add];omega
     generalize pl.getD k 0 = z at *
     go_wp2_with fail
     go_quiet (fail)
     go_wp2_with fail
     go_roundw
     case rel=>exact ⟨k + 1,_,by omega,by go_num,by first | rfl | exact World.drewN_drewN ..⟩
     case measure=>simp [intOf];omega
    ·have hkz : ¬ (k : Int) < (pn : Int):=by omega
     go_wp2_with fail
     go_roundw
     case rel=>exact ⟨i + 1,_,by omega,by go_num,rfl⟩
     case measure=>simp [intOf];omega
  ·have hiz : ¬ (i : Int) < (n : Int):=by omega
   go_wp2_with fail
   go_ret
   exact ⟨rfl,q,rfl⟩
end
section
open Go Go.RowKit Go.Maps
open Go.Sort (HoldsK)
def PtsF (T : List Pnt) (w : World) (e : Ending) (w' : World) : Prop:=∃ A n c l,e = .returned (.slice A n c) /\ Pts w' w'.heap.size A n l /\ n <= 512 /\ l.map bareP = T /\ Below w.heap.size w w' /\ (∀ ad,A = some ad -> w.heap.size <= ad.block /\ ad.block < w'.heap.size) /\ ∀ q ∈ l,∀ ad,q.2.1.1 = some ad -> w.heap.size <= ad.block /\ ad.block < w'.heap.size
structure HalfF (s g i : Nat) (w wr : World) (d d' : Array Pt) : Prop where
 holds : HoldsK pcell 2 wr g 0 d'
 size : d'.size = d.size
 same : ∀ j : Nat,bareP d'[j]! = bareP d[j]!
 vec : ∀ j,j < d'.size -> VecIn wr (fun b=>b ≠ g) (slcP d'[j]!) d'[j]!.2.2
 below : Below s w wr
 lt : g < wr.heap.size
 le : s <= g
 fresh : ∀ j,j < i -> ∀ ad,d'[j]!.2.1.1 = some ad -> s <= ad.block
theorem HalfF.under {s g i : Nat} {w wr w' : World} {d d' : Array Pt} (h : HalfF s g i w wr d d') (hb : Below wr.heap.size wr w') : HalfF s g i w w' d d' :=
 ⟨holdsK_block h.holds (hb.block g h.lt),h.size,h.same,fun j hj=>(h.vec j hj).keep (fun b _ hb'=>hb.block b hb') hb.size,h.below.trans (hb.mono (by have:=h.le;have:=h.lt;omega)),Nat.lt_of_lt_of_le h.lt hb.size,h.le,h.fresh⟩
theorem HalfF.step {s g i : Nat} {w wr : World} {d d' : Array Pt} (h : HalfF s g i w wr d d') (hi : i < d'.size) {A : Option Addr} {c n : Nat} (hv : VecIn wr (fun b=>b ≠ g) (.slice A n c) d'[i]!.2.2) (hA : ∀ ad,A = some ad -> s <= ad.block) :
  HalfF s g (i + 1) w (wr.setCell ⟨g,i * 2 + 1,none⟩ (.slice A n c)) d (d'.setIfInBounds i (d'[i]!.1,(A,n,c),d'[i]!.2.2)):=by
 have hg : ∀ j : Nat,(d'.setIfInBounds i (d'[i]!.1,(A,n,c),d'[i]!.2.2))[j]! = if i = j then (d'[i]!.1,(A,n,c),d'[i]!.2.2) else d'[j]!:=fun j=>by
  by_cases hij : i = j
  ·subst hij
   rw [Go.Sort.getElem!_set_same d' i _ hi,if_pos rfl]
  ·rw [if_neg hij]
   by_cases hj : j < d'.size
   ·rw [getElem!_pos _ j (by simpa using hj),getElem!_pos d' j hj,Array.getElem_setIfInBounds,if_neg hij]
   ·rw [getElem!_neg _ j (by simpa using hj),getElem!_neg d' j hj]
 have hk : ∀ b,b ≠ g -> b < wr.heap.size -> (wr.setCell ⟨g,i * 2 + 1,none⟩ (.slice A n c)).heap[b]? = wr.heap[b]?:=fun b hb _=>heap_set_ne wr _ _ hb
 refine ⟨?_,by simpa using h.size,fun j=>?_,fun j hj=>?_,below_setCell h.below h.le _,by simpa using h.lt,h.le,fun j hj ad e=>?_⟩
 ·have:=holdsK_set h.holds hi (c0:=1) (by omega) (d'[i]!.1,(A,n,c),d'[i]!.2.2) (.slice A n c) rfl (fun c1 h1 h2=>by
   obtain rfl : c1 = 0:=by omega
   rfl)
  rwa [show 0 + i * 2 + 1 = i * 2 + 1 by omega] at this
 ·rw [hg]
  by_cases hij : i = j
  ·subst hij
   rw [if_pos rfl]
   exact h.same i
  ·rw [if_neg hij]
   exact h.same j
 ·rw [hg]
  by_cases hij : i = j
  ·subst hij
   rw [if_pos rfl]
   exact hv.keep hk (by simp)
  ·rw [if_neg hij]
   exact (h.vec j (by simpa using hj)).keep hk (by simp)
 ·rw [hg] at e
  by_cases hij : i = j
  ·rw [if_pos hij] at e
   exact hA ad e
  ·rw [if_neg hij] at e
   exact h.fresh j (by omega) ad e
section
variable {w w' : World} {F : Nat -> Prop} {t bm fm dim : Nat} {rv : Value} {N : NT} {B U : List Ent}
theorem vpts_fresh (h : TreeW w F t bm fm dim rv N B U) {T : List Pnt} (hT : T.Perm ((B ++ U).map bare)) (hr : Rise T) :
  Calls Tryz.prog 51 #[.pointer (some ⟨t,0,none⟩)] w (PtsF T w):=by
 have hg:=vgiven_any h
 have hall:=fun q=>vall_any (h.drewN q) hT hr
 have HT:=Lib.hid (And.intro h (And.intro hT hr))
 clear h hT hr
 go_enter Tryz.func51,Tryz.ntmps51
 go_wp2_with fail
 refine hg.mono ?_
 rintro e w1 ⟨rfl,q,rfl⟩
 clear hg
 go_wp2_with fail
 refine (hall q).mono ?_
 rintro e w2 ⟨g,c,d,rfl,hdc,hcm,hwg,hgl,hH,hdT,hvec,hb⟩
 have hlen : d.size <= 512:=by
  have h1:=congrArg List.length hdT
  have h2:=HT.out.2.1.length_eq
  have h3:=HT.out.1.len
  simp at h1 h2
  omega
 have hok : ∀ j : Nat,j < d.size -> (Lit.int .i64 (bareP d[j]!).1).wf = true /\ okV (bareP d[j]!).2 = true:=fun j hj=>by
  have hm : bareP d[j]! ∈ T:=by
   rw [<- hdT,getElem!_pos d j hj]
   exact List.mem_map_of_mem (by simp)
  obtain ⟨r,hr,e⟩:=List.mem_map.1 (HT.out.2.1.mem_iff.1 hm)
  have:=HT.out.1.ok r hr
  rw [<- e]
  exact ⟨this.1,this.2.1⟩
 have hHalf : HalfF w.heap.size g 0 w w2 d d:=⟨hH,rfl,fun _=>rfl,fun j hj=>by
  have h1:=hvec d[j]! (by rw [getElem!_pos d j hj];simp)
  have hcore : ∀ b,Core F t bm fm b -> b < w.heap.size:=fun b hb'=>HT.out.1.lt b hb'.1
  exact ((h1.keep (w':=w2) (fun b hb' hlt=>by rw [hb.block b (by exact hlt)]) hb.size).more (fun b hb' _=>by have:=hcore b hb';show b ≠ g;have : (w.drewN q).heap.size = w.heap.size:=rfl;omega)),(below_drewN (Below.refl _ w) q).trans hb,hgl,hwg,fun j hj=>by omega⟩
 have HH:=Lib.hid hHalf
 have HOK:=Lib.hid (And.intro hdT hok)
 clear hall hHalf hok hdT hvec hb hH
 obtain ⟨n,hn⟩ : ∃ n,n = d.size:=⟨_,rfl⟩
 rw [<- hn] at hlen hdc ⊢
 have HN:=Lib.hid hn
 clear hn
 obtain ⟨ad,had⟩ : ∃ ad : Addr,ad = ⟨g,0,none⟩:=⟨_,rfl⟩
 rw [<- had]
 have HAD:=Lib.hid had
 clear had
 go_wp2_with fail
 go_loopw [12] (fun vi wr=>∃ (i : Nat) (d' : Array Pt),i <= n /\ vi = .int .i64 i /\ Hid (HalfF w.heap.size g i w wr d d')) (fun vi _=>n - (intOf vi).toNat)
 case atStart=>exact ⟨0,d,by omega,rfl,HH⟩
 case round =>
  obtain ⟨i,d',hi,rfl,HD⟩:=hrel
  clear HH
  by_cases hlt : i < n
  ·have hiz : (i : Int) < (n : Int):=by omega
   have hid' : i < d'.size:=by rw [HD.out.size,<- HN.out];exact hlt
   obtain ⟨_,_⟩:=HD.out.holds.cell (i:=i) (c:=1) hid' (by omega)
   have x1 : wr.cell? ⟨(ad.add (i * 2)).block,(ad.add (i * 2)).off + 1,none⟩ = some (slcP d'[i]!) /\ wr.frozen? ⟨(ad.add (i * 2)).block,(ad.add (i * 2)).off + 1,none⟩ = false:=by
    have:=HD.out.holds.cell (i:=i) (c:=1) hid' (by omega)
    rw [HAD.out,add_flat]
    rw [show (0 + i * 2) + 1 = 0 + i * 2 + 1 by omega]
    exact this
   obtain ⟨x1,x2⟩:=x1
   have hvi:=HD.out.vec i hid'
   have hoki:=HOK.out.2 i (by rw [<- HN.out];exact hlt)
   rw [<- HD.out.same i] at hoki
   have HD2:=HD
   obtain ⟨av,cv,hev,hgv,hlv,hcv⟩:=hvi
   rw [hev] at x1
   have hok2:=(okV_iff _).1 hoki.2
   have hl16 : d'[i]!.2.2.length <= 16:=hok2.2.1
   have hl1 : 1 <= d'[i]!.2.2.length:=hok2.1
   have hcl:=icloned av cv wr.heap.size d'[i]!.2.2 wr ⟨by rw [ints_len];omega,fun _=>⟨av,rfl,hlv,hcv⟩⟩ (Nat.le_refl _) (by omega)
   have cl : (ad.add (i * 2)).block < wr.heap.size:=by rw [block_of_add,HAD.out];exact HD.out.lt
   have HL1:=Lib.hid hl1
   clear hcv hlv hgv hev hoki hok2
   generalize hln : d'[i]!.2.2.length = ln at *
   have HLN:=Lib.hid hln
   clear hln
   have hadb : (ad.add (i * 2)).block = g /\ (ad.add (i * 2)).off = i * 2:=by rw [HAD.out,add_flat];exact ⟨rfl,by simp⟩
   have HADB:=Lib.hid hadb
   clear hadb
   go_wp2_with fail
   refine hcl.mono ?_
   rintro e w3 ⟨v3,rfl,hown3,hb3⟩
   have HD3:=HD.out.under hb3
   have hv3 : VecIn w3 (fun b=>b ≠ g) v3 d'[i]!.2.2:=vec_of_own (by rw [HLN.out];exact hown3) (by rw [HLN.out];exact HL1.out) (fun b h1 _=>by have:=HD.out.lt;show b ≠ g;omega)
   have hA3 : ∀ g3,v3.ownBlock = some g3 -> w.heap.size <= g3:=fun g3 e=>by have:=(hown3.lt g3 e).1;have:=HD.out.le;have:=HD.out.lt;omega
   obtain ⟨A3,c3,rfl,_,_⟩:=own_shape hown3
   have HA3 : Hid (∀ ad,A3 = some ad -> w.heap.size <= ad.block):=Lib.hid (fun ad e=>hA3 ad.block (by rw [e];rfl))
   clear hA3
   have HV3:=Lib.hid hv3
   have HD3':=Lib.hid HD3
   have y1 : w3.cell? ⟨(ad.add (i * 2)).block,(ad.add (i * 2)).off + 1,none⟩ = some (.slice (some av) ln cv):=by
    rw [hb3.cell (by exact cl)]
    exact x1
   have y2 : w3.frozen? ⟨(ad.add (i * 2)).block,(ad.add (i * 2)).off + 1,none⟩ = false:=by
    rw [<- x2]
    exact World.frozen?_of_block (hb3.block _ (by exact cl))
   have cl3 : (ad.add (i * 2)).block < w3.heap.size:=Nat.lt_of_lt_of_le cl hb3.size
   clear HD3 hv3 hown3 x1 x2 hb3 cl hcl
   go_wp2_with fail
   go_roundw
   case rel =>
    have:=HD3'.out.step hid' HV3.out HA3.out
    rw [show (⟨g,i * 2 + 1,none⟩ : Addr) = ⟨(ad.add (i * 2)).block,(ad.add (i * 2)).off + 1,none⟩ by rw [HADB.out.1,HADB.out.2]] at this
    exact ⟨i + 1,_,by omega,by go_num,Lib.hid this⟩
   case measure=>simp [intOf];omega
  ·have hiz : ¬ (i : Int) < (n : Int):=by omega
   go_wp2_with fail
   go_ret
   have hs : d'.size = n:=by rw [HD.out.size,<- HN.out]
   refine ⟨some ad,n,c,d'.toList,rfl,?_,hlen,?_,HD.out.below,fun ad' e=>?_,fun p hp ad' e=>?_⟩
   ·refine ⟨?_,fun p hp=>?_⟩
    ·have:=reads_holds (enc:=pcell) (k:=2) (fun _=>rfl) HD.out.holds HD.out.lt
     rw [hs] at this
     rw [HAD.out]
     exact this
    ·obtain ⟨j,hj,rfl⟩:=List.mem_iff_getElem.1 hp
     have hj' : j < d'.size:=by simpa using hj
     have e : d'.toList[j] = d'[j]!:=by rw [getElem!_pos d' j hj'];simp
     rw [e]
     obtain ⟨a1,c1,e1,_,hl1,hc1⟩:=HD.out.vec j hj'
     have hok:=HOK.out.2 j (by rw [<- HN.out,<- hs];exact hj')
     rw [<- HD.out.same j] at hok
     unfold slcP at e1
     injection e1 with e2 e3 e4
     have h16:=((okV_iff _).1 hok.2).2.1
     have h16' : d'[j]!.2.2.length <= 16:=h16
     refine ⟨⟨⟨by rw [ints_len,e3];omega,fun _=>⟨a1,e2,hl1,hc1⟩⟩,by rw [e3];unfold maxLen;omega⟩,hok.1⟩
   ·rw [map_same HD.out.size HD.out.same]
    exact HOK.out.1
   ·cases e
    rw [HAD.out]
    exact ⟨HD.out.le,HD.out.lt⟩
   ·obtain ⟨j,hj,rfl⟩:=List.mem_iff_getElem.1 hp
    have hj' : j < d'.size:=by simpa using hj
    have e2 : d'.toList[j] = d'[j]!:=by rw [getElem!_pos d' j hj'];simp
    rw [e2] at e
    obtain ⟨a1,c1,e1,_,hl1,_⟩:=HD.out.vec j hj'
    unfold slcP at e1
    injection e1 with e3 _ _
    have e4 : a1 = ad':=Option.some.inj (e3.symm.trans e)
    exact ⟨HD.out.fresh j (by omega) ad' e,by rw [<- e4];exact hl1⟩
theorem t_ptsF {w : World} {F : Nat -> Prop} {t dim : Nat} {T : List Pnt} (h : Tree w F t dim T) : Calls Tryz.prog 51 #[.pointer (some ⟨t,0,none⟩)] w (PtsF T w):=by
 obtain ⟨⟨bm,fm,rv,N,B,U,hm,hp⟩,hr⟩:=h
 exact vpts_fresh hm hp hr
end
end
end Go.Proofs.YtegjjhjgfkcbhaaGreatDoor
