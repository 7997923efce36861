/- WTakeY WTell WSeek. Conditions: as each part says. -/
import Derived.Test.YtegjjhjgfkcbhaaGreatDoorQ28
import Derived.Deep.RegionLaw
import Derived.BigRegion
import Derived.Deep.CutRange
import Derived.Test.YtegjjhjgfkcbhaaGreatDoorQ12
set_option linter.unusedVariables false
set_option linter.unusedSimpArgs false
set_option maxRecDepth 100000
set_option maxHeartbeats 16000000
namespace Go.Proofs.YtegjjhjgfkcbhaaGreatDoor
section
open Go Go.RowKit Go.Maps
theorem own_cut {w : World} {base : Nat} {e : TypeId} {size m n c : Nat} {A : Option Addr} {xs : List Value} (h : w.ownsRow base e size (.slice A n c) n xs) (hm : m <= n) (h0 : 0 < n) : w.ownsRow base e size (.slice A m c) m (xs.take (m * size)):=by
 refine ⟨by rw [List.length_take,h.1];exact Nat.min_eq_left (Nat.mul_le_mul_right _ hm),?_⟩
 rcases h.2 with ⟨_,h1⟩ | ⟨g,c1,cur,h1,h2,h3,h4,h5,h6,h7⟩
 ·omega
 ·injection h1 with h1 _ h1c
  subst h1 h1c
  exact .inr ⟨g,c,cur,rfl,h2,h3,by omega,h5,h6,by rw [<- h7,List.take_take,Nat.min_eq_left (Nat.mul_le_mul_right _ hm)]⟩
section
variable {w w' : World} {bb base k : Nat} {lim : Int} {v : Value} {H : List Hit}
theorem NearW.put {v' : Value} {H' : List Hit} (hr : Row w bb 173 [.int .i64 (k : Int),.int .i64 lim,v]) (hup : bb < base) (hbl : base <= w.heap.size) (ho : w.ownsRow base 91 2 v' H'.length (hits H')) : NearW (w.setCell ⟨bb,2,none⟩ v') bb base k lim v' H' :=
 ⟨hr.set 2 v',own_keep ho (fun g hg=>heap_set_ne w _ _ (by have:=(ho.lt g hg).1;show g ≠ bb;omega)),hup,by simpa using hbl⟩
theorem take_turn {w2 w3 : World} {cs : Array Value} {T : TypeId} {v v' u1 u2 : Value} (T2 : Turn (Own2 bb v) w (Own2 bb v) w2) (hg : ((w2.alloc (.cells cs T)).drew).grownBy w3 v.ownBlock)
  (hv : v'.ownBlock = v.ownBlock \/ v'.ownBlock = some ((w2.alloc (.cells cs T)).drew).heap.size) : Turn (Own2 bb v) w (Own2 bb v') (((w3.setCell ⟨bb,2,none⟩ u1).setCell ⟨bb,2,none⟩ u2).drew):=by
 have e : ((w2.alloc (.cells cs T)).drew).heap.size = w2.heap.size + 1:=by show (w2.alloc _).heap.size = _;simp
 have h1:=hg.size
 have h2:=T2.size
 have hb : ∀ b,b < w.heap.size -> ¬ Own2 bb v b -> w3.heap[b]? = w.heap[b]?:=fun b hlt hn=>by
  rw [hg.block b (by omega) (fun e=>hn (.inr e.symm))]
  show (w2.alloc _).heap[b]? = _
  rw [heap_alloc_lt w2 _ (by omega)]
  exact T2.block b hlt hn
 refine ⟨hg.os.trans T2.os,hg.tape.trans T2.tape,hg.output.trans T2.output,?_,fun b hlt hn=>?_,fun b hF=>?_⟩
 ·show w.heap.size <= ((w3.setCell ⟨bb,2,none⟩ u1).setCell ⟨bb,2,none⟩ u2).heap.size
  rw [World.size_setCell,World.size_setCell]
  omega
 ·show ((w3.setCell ⟨bb,2,none⟩ u1).setCell ⟨bb,2,none⟩ u2).heap[b]? = _
  rw [heap_set_ne _ ⟨bb,2,none⟩ _ (fun e=>hn (.inl e)),heap_set_ne _ ⟨bb,2,none⟩ _ (fun e=>hn (.inl e))]
  exact hb b hlt hn
 ·rcases hF with hF | hF
  ·exact .inl (.inl hF)
  ·rcases hv with hv | hv
   ·exact .inl (.inr (by rw [<- hv];exact hF))
   ·rw [hv] at hF
    injection hF with hF
    right
    omega
theorem insH_at' {h : Hit} {H : List Hit} {p : Nat} (hp : p <= H.length) (h0 : ∀ t,t < p -> hlt h (H.getD t (0,0)) = false) (h1 : p < H.length -> hlt h (H.getD p (0,0)) = true) : H.take p ++ h :: H.drop p = insH h H:=(insH_at hp h0 h1).symm
structure Rest (w : World) (hb bp bb k : Nat) (lim : Int) (v : Value) (h : Hit) : Prop where
 hit : Row w hb 91 (hcell h)
 ptr : Row w bp 223 [.pointer (some ⟨bb,0,none⟩)]
 row : Row w bb 173 [.int .i64 (k : Int),.int .i64 lim,v]
theorem Rest.d2 {hb bp : Nat} {h : Hit} (t : Rest w hb bp bb k lim v h) : w.cell? ⟨bb,2,none⟩ = some v:=t.row.cell rfl
theorem Rest.z2 {hb bp : Nat} {h : Hit} (t : Rest w hb bp bb k lim v h) : w.frozen? ⟨bb,2,none⟩ = false:=t.row.frozen 2
theorem Rest.lt {hb bp : Nat} {h : Hit} (t : Rest w hb bp bb k lim v h) : bb < w.heap.size:=t.row.lt
theorem after_ins {w3 : World} {hb bp : Nat} {h : Hit} {cs : Array Value} {T : TypeId} (t : TestW w hb bp bb base k lim v h H) (hg : ((w.alloc (.cells cs T)).drew).grownBy w3 v.ownBlock) (h1 : ∀ g,v.ownBlock = some g -> g ≠ hb /\ g ≠ bp) : Hid (Rest w3 hb bp bb k lim v h):=by
 have hk : ∀ b,b < w.heap.size -> some b ≠ v.ownBlock -> w3.heap[b]? = w.heap[b]?:=fun b hb hne=>(hg.block b (by show b < (w.alloc _).heap.size;simp;omega) hne).trans (heap_alloc_lt w _ hb)
 exact Lib.hid ⟨t.hit.keep (hk _ t.hit.lt (fun e=>(h1 _ e.symm).1 rfl)),t.ptr.keep (hk _ t.ptr.lt (fun e=>(h1 _ e.symm).2 rfl)),t.near.row.keep (hk _ t.near.lt (fun e=>by have:=(t.near.own.lt _ e.symm).1;have:=t.near.up;omega))⟩
structure Fin3 (w w3 : World) (hb bp bb base k : Nat) (lim : Int) (v : Value) (h : Hit) (A3 : Option Addr) (n c3 p : Nat) (H : List Hit) : Prop where
 e0 : w3.cell? ⟨bp,0,none⟩ = some (.pointer (some ⟨bb,0,none⟩))
 d2 : w3.cell? ⟨bb,2,none⟩ = some v
 z2 : w3.frozen? ⟨bb,2,none⟩ = false
 lt : bb < w3.heap.size
 rest : Rest w3 hb bp bb k lim v h
 own : w3.ownsRow base 91 2 (.slice A3 (n + 1) c3) (n + 1) (hits (H.take p ++ h :: H.drop p))
 nc : n + 1 <= c3
 cm : c3 <= maxLen
 grown : w.grownBy w3 v.ownBlock
 where_ : (Value.slice A3 (n + 1) c3).ownBlock = v.ownBlock \/ (Value.slice A3 (n + 1) c3).ownBlock = some w.heap.size
theorem take_yes (t : NearW w bb base k lim v H) (hk1 : 1 <= k) (hk : k <= 64) (hH : H.length <= k) (ho : InOrd H) {h : Hit} (hr : ¬ reachOf k lim H < h.2) :
  Calls Tryz.prog 105 #[.pointer (some ⟨bb,0,none⟩),hitV h] w (TakePost bb base k lim v H h w):=by
 have hb0 : Below w.heap.size w ((w.alloc (.cells #[.pointer (some ⟨bb,0,none⟩)] 223)).alloc (.cells #[.int .i64 h.1,.int .i64 h.2] 91)):=((Below.refl _ w).alloc (Nat.le_refl _) _).alloc (by simp) _
 have hp0 : Row ((w.alloc (.cells #[.pointer (some ⟨bb,0,none⟩)] 223)).alloc (.cells #[.int .i64 h.1,.int .i64 h.2] 91)) w.heap.size 223 [.pointer (some ⟨bb,0,none⟩)]:=(Row.new w 223 [.pointer (some ⟨bb,0,none⟩)]).keep (heap_alloc_lt _ _ (by simp))
 have hh0 : Row ((w.alloc (.cells #[.pointer (some ⟨bb,0,none⟩)] 223)).alloc (.cells #[.int .i64 h.1,.int .i64 h.2] 91)) (w.heap.size + 1) 91 (hcell h):=by
  have:=Row.new (w.alloc (.cells #[.pointer (some ⟨bb,0,none⟩)] 223)) 91 (hcell h)
  have e : (w.alloc (.cells #[.pointer (some ⟨bb,0,none⟩)] 223)).heap.size = w.heap.size + 1:=by simp
  rw [e] at this
  exact this
 have hbbs : bb < w.heap.size:=t.lt
 have hvs : ∀ g,v.ownBlock = some g -> g < w.heap.size:=fun g hg=>(t.own.lt g hg).2
 unfold hitV
 generalize hW : (w.alloc (.cells #[.pointer (some ⟨bb,0,none⟩)] 223)).alloc (.cells #[.int .i64 h.1,.int .i64 h.2] 91) = W at *
 generalize hs : w.heap.size = s at *
 have HW:=Lib.hid hW
 have HS:=Lib.hid hs
 clear hW hs
 have t0:=t.below (by rw [HS.out];exact hb0)
 have T0 : TestW W (s + 1) s bb base k lim v h H:=⟨hh0,hp0,t0⟩
 have hre:=fun q=>vreach_any (t0.drewN q) hk1 hk hH
 have z0:=hp0.cell (j:=0) rfl
 have zl:=hp0.lt
 have y1:=hh0.cell (j:=1) rfl
 have yl:=hh0.lt
 have hb : decide (reachOf k lim H < h.2) = false:=decide_eq_false hr
 have HF:=Lib.hid (And.intro T0 hb0)
 have HO:=Lib.hid (And.intro ho (And.intro hr (And.intro hbbs hvs)))
 have TT : Turn (Own2 bb v) w (Own2 bb v) W:=Turn.below _ (by rw [HS.out];exact hb0)
 have HTT:=Lib.hid TT
 clear hr t0 hb0 hp0 hh0 t ho hbbs hvs T0 TT
 go_enter Tryz.func105,Tryz.ntmps105
 go_wp2_with fail
 rw [HW.out,HS.out]
 generalize hR : reachOf k lim H = R at *
 have HRE:=Lib.hid hR
 clear hR
 go_quiet ((go_at_call 108;refine Calls.quiet_of (hre _)))
 obtain ⟨w1,hw1⟩ : ∃ w1,w1 = W.drewN nq:=⟨_,rfl⟩
 rw [<- hw1]
 have hW1 : Below W.heap.size W w1:=by rw [hw1];exact below_drewN (Below.refl _ W) nq
 have T1:=HF.out.1.below hW1
 have HTT1:=Lib.hid (HTT.out.trans (Turn.below (Own2 bb v) hW1))
 have z0:=T1.ptr.cell (j:=0) rfl
 have zl:=T1.ptr.lt
 have y1:=T1.hit.cell (j:=1) rfl
 have yl:=T1.hit.lt
 have d2:=T1.near.d2
 have dl:=T1.near.lt
 obtain ⟨A,c,hv0,hnc,hcm⟩:=own_shape T1.near.own
 subst hv0
 have hs1:=srch_any T1 HO.out.1 (by omega)
 have HT1:=Lib.hid T1
 clear hw1 hW1 T1 hre
 have hcl : H.length <= 64:=by omega
 generalize hn : H.length = n at *
 have HN:=Lib.hid hn
 clear hn
 go_wp2_with fail
 refine hs1.mono ?_
 rintro e w2 ⟨p,rfl,hp,hlo,hhi,hb2⟩
 have T2:=HT1.out.below hb2
 have HTT2:=Lib.hid (HTT1.out.trans (Turn.below (Own2 bb (.slice A n c)) hb2))
 have e0:=T2.ptr.cell (j:=0) rfl
 have el:=T2.ptr.lt
 have f0:=T2.hit.cell (j:=0) rfl
 have f1:=T2.hit.cell (j:=1) rfl
 have fl:=T2.hit.lt
 have d2:=T2.near.d2
 have dl:=T2.near.lt
 have HP:=Lib.hid (insH_at' (h:=h) hp hlo hhi)
 rw [HN.out] at hp
 have hown0 : ((w2.alloc (.cells #[.int .i64 h.1,.int .i64 h.2] 91)).drew).ownsRow base 91 2 (.slice A H.length c) H.length (hits H):=by
  have:=T2.near.own
  rw [<- HN.out] at this
  exact own_keep this (fun g hg=>heap_alloc_lt _ _ (this.lt g hg).2)
 have hrow0 : Row ((w2.alloc (.cells #[.int .i64 h.1,.int .i64 h.2] 91)).drew) w2.heap.size 91 (hcell h):=Row.new w2 91 (hcell h)
 have hins:=ins_any ((w2.alloc (.cells #[.int .i64 h.1,.int .i64 h.2] 91)).drew) base A c H h w2.heap.size p hown0 (by have:=T2.near.base_le;show base <= (w2.alloc _).heap.size;simp;omega) hrow0 (fun ad e=>by
  subst e
  have:=(T2.near.own.lt ad.block rfl).2
  omega) (by have:=HN.out;omega) (by have:=HN.out;omega)
 rw [HN.out] at hins
 have HI : Hid (Calls Tryz.prog 150 #[.slice A n c,.int .i64 (p : Int),.slice (some ⟨w2.heap.size,0,none⟩) 1 1] ((w2.alloc (.cells #[.int .i64 h.1,.int .i64 h.2] 91)).drew) fun e w3=>∃ A3 c3,e = .returned (.slice A3 (n + 1) c3) /\ Fin3 ((w2.alloc (.cells #[.int .i64 h.1,.int .i64 h.2] 91)).drew) w3 (s + 1) s bb base k lim (.slice A n c) h A3 n c3 p H) :=
  Lib.hid (hins.mono (by
   rintro e w3 ⟨v3,rfl,hown3,hg3,hv3⟩
   obtain ⟨A3,c3,rfl,hn3,hc3⟩:=own_shape hown3
   have T3:=(after_ins (w3:=w3) T2 hg3 (fun g hg=>by have:=HO.out.2.2.2 g hg;have:=HS.out;omega)).out
   rw [HN.out] at hown3 hv3 hn3 ⊢
   exact ⟨A3,c3,rfl,T3.ptr.cell (j:=0) rfl,T3.d2,T3.z2,T3.lt,T3,hown3,hn3,hc3,hg3,hv3⟩))
 have HT2:=Lib.hid T2
 clear hb2 hlo hhi hown0 hrow0 hins T2 z0 zl y1 yl hs1
 go_upto_region 3 with fail
 go_cut [17] from 17 (fun s17 wc=>∃ (A3 : Option Addr) (c3 : Nat) (w3 : World),Fin3 ((w2.alloc (.cells #[.int .i64 h.1,.int .i64 h.2] 91)).drew) w3 (s + 1) s bb base k lim (.slice A n c) h A3 n c3 p H /\ wc = w3.setCell ⟨bb,2,none⟩ (.slice A3 (n + 1) c3))
 case first =>
  go_region_law (go_simp;go_at_call 150;refine HI.out.mono ?_;rintro e w3 ⟨A3,c3,rfl,hF⟩;have d3:=hF.d2;have z3:=hF.z2;have dl3:=hF.lt;have e3:=hF.e0;have el3:=hF.rest.ptr.lt;have HV3:=Lib.hid hF;clear hF)
  all_goals
   go_wp2_with fail
   go_meet
   exact ⟨_,_,_,HV3.out,rfl⟩
 case rest =>
  obtain ⟨A3,c3,w3,F3,rfl⟩:=hcut
  obtain ⟨W4,hW4⟩ : ∃ W4,W4 = w3.setCell ⟨bb,2,none⟩ (.slice A3 (n + 1) c3):=⟨_,rfl⟩
  rw [<- hW4]
  have hup:=HT2.out.near.up
  have hbl:=HT2.out.near.base_le
  have hI : (insH h H).length = n + 1:=by rw [insH_len,HN.out]
  have hown3 : w3.ownsRow base 91 2 (.slice A3 (n + 1) c3) (insH h H).length (hits (insH h H)):=by
   have:=F3.own
   rw [HP.out] at this
   rw [hI]
   exact this
  have hs3 : w2.heap.size + 1 <= w3.heap.size:=by
   have:=F3.grown.size
   have e : ((w2.alloc (.cells #[.int .i64 h.1,.int .i64 h.2] 91)).drew).heap.size = w2.heap.size + 1:=by show (w2.alloc _).heap.size = _;simp
   omega
  have n3 : NearW W4 bb base k lim (.slice A3 (n + 1) c3) (insH h H):=by
   rw [hW4]
   exact NearW.put F3.rest.row hup (by omega) hown3
  have T4 : ∀ u2 v',v'.ownBlock = (Value.slice A3 (n + 1) c3).ownBlock -> Turn (Own2 bb (.slice A n c)) w (Own2 bb v') ((W4.setCell ⟨bb,2,none⟩ u2).drew):=fun u2 v' hv'=>by
   rw [hW4]
   exact take_turn HTT2.out F3.grown (by rw [hv'];exact F3.where_)
  have p4 : Row W4 s 223 [.pointer (some ⟨bb,0,none⟩)]:=by
   rw [hW4]
   exact F3.rest.ptr.keep (heap_set_ne w3 _ _ (by have:=HO.out.2.2.1;have:=HS.out;show s ≠ bb;omega))
  have z0:=p4.cell (j:=0) rfl
  have zl:=p4.lt
  have d0:=n3.d0
  have d2:=n3.d2
  have f2:=n3.row.frozen 2
  have dl:=n3.lt
  have hc3 : c3 <= 9223372036854775807:=by have:=F3.cm;unfold maxLen at this;omega
  have hnc3:=F3.nc
  have HR:=Lib.hid (And.intro n3 T4)
  have HHI:=Lib.hid hI
  clear hW4 hup hbl hI hown3 hs3 n3 T4 p4 F3
  have HF:=Lib.hid (show TakePost bb base k lim (.slice A n c) H h w (.returned (.tuple #[])) ((W4.setCell ⟨bb,2,none⟩ (.slice A3 (min (k : Int) ((n : Int) + 1)).toNat c3)).drew) from by
   refine ⟨rfl,.slice A3 (min (k : Int) ((n : Int) + 1)).toNat c3,?_,HR.out.2 _ _ (by rcases A3 with _ | a <;> rfl)⟩
   rw [if_neg (by rw [HRE.out];have:=HO.out.2.1;omega)]
   have n4:=HR.out.1
   have hm : (min (k : Int) ((n : Int) + 1)).toNat = ((insH h H).take k).length:=by rw [List.length_take,HHI.out];omega
   have ho4:=n4.own
   rw [HHI.out] at ho4
   have ho5:=own_cut ho4 (m:=((insH h H).take k).length) (by rw [List.length_take,HHI.out];omega) (by omega)
   rw [Nat.mul_comm,hits_take] at ho5
   have e : (insH h H).take ((insH h H).take k).length = (insH h H).take k:=by rw [List.length_take,List.take_eq_take_min,Nat.min_assoc,Nat.min_self,<- List.take_eq_take_min]
   rw [e] at ho5
   rw [hm]
   exact (NearW.put n4.row n4.up n4.base_le ho5).drewN 1)
  go_wp2_with fail
  go_region
  go_wp2_with fail
  refine bodyPost_ret (results_none rfl _ _ _) rfl ?_
  exact HF.out
end
end
section
open Go Go.RowKit Go.Maps
section
variable {w w' : World} {F : Nat -> Prop} {t bm fm dim bt bb base k : Nat} {rv : Value} {N : NT} {B U : List Ent} {lim : Int} {v : Value} {S : List Hit}
theorem vtake_any (tw : NearW w bb base k lim v (bst k S)) (hk1 : 1 <= k) (hk : k <= 64) (hS : ∀ x ∈ S,x.2 <= lim) (h : Hit) :
  Calls Tryz.prog 105 #[.pointer (some ⟨bb,0,none⟩),hitV h] w fun e w'=>e = .returned (.tuple #[]) /\ ∃ v',NearW w' bb base k lim v' (bst k ((if h.2 <= lim then [h] else []) ++ S)) /\ Turn (Own2 bb v) w (Own2 bb v') w':=by
 have e:=one_more (k:=k) (show 0 < k by omega) hS h
 by_cases hr : reachOf k lim (bst k S) < h.2
 ·refine (take_no tw hk1 hk (bst_len k S) hr).mono ?_
  rintro e' w' ⟨rfl,v',h1,h2⟩
  rw [e] at h1
  exact ⟨rfl,v',h1,h2⟩
 ·refine (take_yes tw hk1 hk (bst_len k S) (bst_ord k S) hr).mono ?_
  rintro e' w' ⟨rfl,v',h1,h2⟩
  rw [e] at h1
  exact ⟨rfl,v',h1,h2⟩
theorem MapAt.lookN {b : Nat} {E : List Ent} (h : MapAt w b E) {x : Int} (hx : (Lit.int .i64 x).wf = true) (hi : isId x E = true) :
  ∃ u,∀ n,(Instr.lookup 169 (.map (some b)) (.int .i64 x) true).run Tryz.prog (w.drewN n) = .ok (.tuple #[u,.bool true]) (w.drewN n):=by
 obtain ⟨D,ho,hD⟩:=h
 obtain ⟨⟨y,u,l⟩,hp,rfl⟩:=(isId_iff _ _).1 hi
 refine ⟨u,fun n=>?_⟩
 have hon : (w.drewN n).ownsMap Tryz.prog 3 hR b E.length D:=ho
 obtain ⟨v,ps,hrun,hv⟩:=hon.look_ok law3 Tryz.underlying169 (zeroS (w.drewN n)) (zd:=.held (.slice none 0 0)) (zp:=[]) rfl (key_of hx)
 rw [hD.has] at hrun
 have hv:=hR_inj hv
 have hv2:=DataW.held.inj ((hD.at_ _ hp (.held (.slice none 0 0))).symm.trans hv)
 subst hv2
 rw [hi] at hrun
 exact hrun
structure SkW (w : World) (F : Nat -> Prop) (t bm fm dim : Nat) (rv : Value) (N : NT) (B U : List Ent) (bt bb base k : Nat) (lim : Int) (v : Value) (S : List Hit) : Prop where
 tree : TreeW w F t bm fm dim rv N B U
 box : Row w bt 94 [.pointer (some ⟨t,0,none⟩)]
 near : NearW w bb base k lim v (bst k S)
 below : ∀ b,F b -> b < bb
 bt : bt < bb
 k1 : 1 <= k
 k2 : k <= 64
 lim : ∀ x ∈ S,x.2 <= lim
theorem SkW.step {v' : Value} {S' : List Hit} (h : SkW w F t bm fm dim rv N B U bt bb base k lim v S) (hn : NearW w' bb base k lim v' (bst k S')) (T : Turn (Own2 bb v) w (Own2 bb v') w') (hS : ∀ x ∈ S',x.2 <= lim) : SkW w' F t bm fm dim rv N B U bt bb base k lim v' S':=by
 have far_ : ∀ b,b < bb -> ¬ Own2 bb v b:=fun b hb ho=>by
  rcases ho with ho | ho
  ·omega
  ·have:=(h.near.own.lt b ho).1
   have:=h.near.up
   omega
 exact ⟨h.tree.turn T (fun b hb=>far_ b (h.below b hb)),h.box.keep (T.block bt h.box.lt (far_ bt h.bt)),hn,h.below,h.bt,h.k1,h.k2,hS⟩
theorem SkW.under (h : SkW w F t bm fm dim rv N B U bt bb base k lim v S) (hb : Below w.heap.size w w') : SkW w' F t bm fm dim rv N B U bt bb base k lim v S :=
 ⟨h.tree.below hb,h.box.keep (hb.block bt h.box.lt),h.near.below hb,h.below,h.bt,h.k1,h.k2,h.lim⟩
def TellPost (F : Nat -> Prop) (t bm fm dim : Nat) (rv : Value) (N : NT) (B U : List Ent) (bt bb base k : Nat) (lim : Int) (v : Value) (S X : List Hit) (w : World) (e : Ending) (w' : World) : Prop :=
 e = .returned (.int .i64 (reachOf k lim (bst k (X ++ S)))) /\ ∃ v',SkW w' F t bm fm dim rv N B U bt bb base k lim v' (X ++ S) /\ Turn (Own2 bb v) w (Own2 bb v') w'
def oneH (B : List Ent) (lim : Int) (h : Hit) : List Hit:=if isId h.1 B = true then (if h.2 <= lim then [h] else []) else []
theorem tell_any (s : SkW w F t bm fm dim rv N B U bt bb base k lim v S) (h : Hit) (hw : (Lit.int .i64 h.1).wf = true) :
  Calls Tryz.prog 109 #[hitV h,.pointer (some ⟨bt,0,none⟩),.pointer (some ⟨bb,0,none⟩)] w (TellPost F t bm fm dim rv N B U bt bb base k lim v S (oneH B lim h) w):=by
 have hb0 : Below w.heap.size w (w.alloc (.cells #[.int .i64 h.1,.int .i64 h.2] 91)):=(Below.refl _ w).alloc (Nat.le_refl _) _
 have hh0 : Row (w.alloc (.cells #[.int .i64 h.1,.int .i64 h.2] 91)) w.heap.size 91 (hcell h):=Row.new w 91 (hcell h)
 have s0:=s.under hb0
 have T0 : Turn (Own2 bb v) w (Own2 bb v) (w.alloc (.cells #[.int .i64 h.1,.int .i64 h.2] 91)):=Turn.below _ hb0
 unfold hitV
 generalize hW : w.alloc (.cells #[.int .i64 h.1,.int .i64 h.2] 91) = W at *
 generalize hs : w.heap.size = s1 at *
 have HW:=Lib.hid hW
 have HS:=Lib.hid hs
 have z0:=s0.box.cell (j:=0) rfl
 have zl:=s0.box.lt
 have y0:=hh0.cell (j:=0) rfl
 have y1:=hh0.cell (j:=1) rfl
 have yl:=hh0.lt
 have c3:=s0.tree.c3
 have tl:=s0.tree.tlt
 have HF:=Lib.hid (And.intro s0 (And.intro T0 hh0))
 clear hW hs hb0 hh0 T0 s
 cases hi : isId h.1 B with
 | false =>
  have hlk:=fun n=>((s0.tree.drewN n).mb.look hw).2 hi
  have hre:=fun q=>vreach_any ((s0.near).drewN q) s0.k1 s0.k2 (bst_len k S)
  have HX : Hid (oneH B lim h ++ S = S):=Lib.hid (by unfold oneH;rw [if_neg (by rw [hi];simp)];rfl)
  clear s0 hi
  go_enter Tryz.func109,Tryz.ntmps109
  go_wp2_with fail
  rw [HW.out,HS.out]
  go_quiet (fail)
  obtain ⟨q,rfl⟩ : ∃ q,q = nq:=⟨_,rfl⟩
  have hre1:=hre q
  have hq : Below W.heap.size W (W.drewN q):=below_drewN (Below.refl _ W) q
  have HF1:=Lib.hid (And.intro (HF.out.1.under hq) (HF.out.2.1.trans (Turn.drewN _ W q)))
  generalize W.drewN q = w1 at *
  clear hre hq hlk
  go_wp2_with fail
  refine hre1.mono ?_
  rintro e w2 ⟨rfl,q2,rfl⟩
  go_wp2_with fail
  go_ret
  refine ⟨by rw [HX.out];rfl,v,?_,?_⟩
  ·rw [HX.out]
   exact HF1.out.1.under (below_drewN (Below.refl _ w1) q2)
  ·exact HF1.out.2.trans (Turn.drewN _ w1 q2)
 | true =>
  have HX : Hid (oneH B lim h = if h.2 <= lim then [h] else []):=Lib.hid (by unfold oneH;rw [if_pos hi])
  obtain ⟨u,hlk⟩:=MapAt.lookN s0.tree.mb hw hi
  have htk:=fun q=>vtake_any (s0.near.drewN q) s0.k1 s0.k2 s0.lim h
  unfold hitV at htk
  have hXl : ∀ x ∈ (if h.2 <= lim then [h] else []),x.2 <= lim:=fun x hx=>by
   by_cases hl : h.2 <= lim
   ·rw [if_pos hl] at hx
    rw [List.mem_singleton.1 hx]
    exact hl
   ·rw [if_neg hl] at hx
    simp at hx
  generalize (if h.2 <= lim then [h] else []) = X at *
  have HXL:=Lib.hid hXl
  clear s0 hi hXl
  go_enter Tryz.func109,Tryz.ntmps109
  go_wp2_with fail
  rw [HW.out,HS.out]
  go_quiet (fail)
  obtain ⟨q,rfl⟩ : ∃ q,q = nq:=⟨_,rfl⟩
  go_wp2_with fail
  refine (htk q).mono ?_
  rintro e w2 ⟨rfl,v2,hn2,T2⟩
  have s2:=(HF.out.1.under (below_drewN (Below.refl _ W) q)).step hn2 T2 (fun x hx=>by
   rcases List.mem_append.1 hx with hx | hx
   ·exact HXL.out x hx
   ·exact HF.out.1.lim x hx)
  have hre:=vreach_any s2.near s2.k1 s2.k2 (bst_len k _)
  have HF2:=Lib.hid (And.intro s2 ((HF.out.2.1.trans (Turn.drewN _ W q)).trans T2))
  clear hn2 T2 s2 htk hlk
  go_wp2_with fail
  refine hre.mono ?_
  rintro e w3 ⟨rfl,q3,rfl⟩
  go_wp2_with fail
  go_ret
  refine ⟨by rw [HX.out];rfl,v2,?_,?_⟩
  ·rw [HX.out]
   exact HF2.out.1.under (below_drewN (Below.refl _ w2) q3)
  ·exact HF2.out.2.trans (Turn.drewN _ w2 q3)
end
end
section
open Go Go.RowKit Go.Maps
section
variable {w w' : World} {F : Nat -> Prop} {t bm fm dim bt bb base k : Nat} {rv : Value} {N : NT} {B U : List Ent} {lim : Int} {v : Value} {S : List Hit}
theorem SkW.same {S' : List Hit} (h : SkW w F t bm fm dim rv N B U bt bb base k lim v S) (e : bst k S = bst k S') (hl : ∀ x ∈ S',x.2 <= lim) : SkW w F t bm fm dim rv N B U bt bb base k lim v S' :=
 ⟨h.tree,h.box,by rw [<- e];exact h.near,h.below,h.bt,h.k1,h.k2,hl⟩
theorem SkW.far {v' : Value} (h : SkW w F t bm fm dim rv N B U bt bb base k lim v S) (T : Turn (Own2 bb v) w (Own2 bb v') w') : ∀ b,b < bb -> b < w.heap.size -> w'.heap[b]? = w.heap[b]?:=fun b hb hlt=>T.block b hlt (fun ho=>by
 rcases ho with ho | ho
 ·omega
 ·have:=(h.near.own.lt b ho).1
  have:=h.near.up
  omega)
theorem reads_far {A : Option Addr} {n size : Nat} {xs : List Value} (h : Reads w bb size A n xs) (hb : bb <= w.heap.size) (hk : ∀ b,b < bb -> b < w.heap.size -> w'.heap[b]? = w.heap[b]?) : Reads w' bb size A n xs :=
 h.keep (fun p hp=>World.cell?_of_block (hk p.block hp (by omega)))
theorem SkW.at_ (h : SkW w F t bm fm dim rv N B U bt bb base k lim v S) {G : Nat -> Prop} (hG : ∀ b,G b -> b < bb) (hk : ∀ b,b < bb -> b < w.heap.size -> w'.heap[b]? = w.heap[b]?) (hs : w.heap.size <= w'.heap.size) {N' : NT} {r : Value} (hN : NodeAt w G r N') : NodeAt w' G r N' :=
 hN.keep (fun b hb hlt=>hk b (hG b hb) hlt) hs
theorem xs_lim {vec : List Int} {X : List (Int × List Int)} (hS : ∀ x ∈ S,x.2 <= lim) : ∀ x ∈ nearH vec lim X ++ S,x.2 <= lim:=fun x hx=>by
 rcases List.mem_append.1 hx with hx | hx
 ·exact nearH_lim x hx
 ·exact hS x hx
theorem oneH_near {vec nv : List Int} {id : Int} : oneH B lim (id,far nv vec) = nearH vec lim (selB B [(id,nv)]):=by
 unfold oneH
 rw [selB_cons,selB_nil]
 by_cases hi : isId id B = true
 ·rw [if_pos hi,if_pos hi,nearH_cons,nearH_nil,List.append_nil]
 ·rw [if_neg hi,if_neg hi,nearH_nil]
theorem three_perm {vec : List Int} {e : Int × List Int} {a b : List (Int × List Int)} : (nearH vec lim (selB B a) ++ (nearH vec lim (selB B b) ++ (nearH vec lim (selB B [e]) ++ S))).Perm (nearH vec lim (selB B (e :: (b ++ a))) ++ S):=by
 rw [show e :: (b ++ a) = [e] ++ (b ++ a) from rfl,selB_append,selB_append,nearH_append,nearH_append]
 rw [<- List.append_assoc,<- List.append_assoc]
 refine List.Perm.append_right S ?_
 refine (List.perm_append_comm).trans ?_
 exact List.Perm.append_left _ List.perm_append_comm
theorem three_perm' {vec : List Int} {e : Int × List Int} {a b : List (Int × List Int)} : (nearH vec lim (selB B a) ++ (nearH vec lim (selB B b) ++ (nearH vec lim (selB B [e]) ++ S))).Perm (nearH vec lim (selB B (e :: (a ++ b))) ++ S):=by
 refine three_perm.trans (List.Perm.append_right S (nearH_perm (List.Perm.filter _ ?_)))
 exact (List.perm_append_comm).cons e
def vclo (bt bb : Nat) : Value:=.func (.func 109) #[] #[.pointer (some ⟨bt,0,none⟩),.pointer (some ⟨bb,0,none⟩)]
theorem seek_nil (s : SkW w F t bm fm dim rv N B U bt bb base k lim v S) {A : Option Addr} {n c : Nat} {vec : List Int} :
  Calls Tryz.prog 107 #[.pointer none,.slice A n c,.int .i64 (reachOf k lim (bst k S)),vclo bt bb] w (TellPost F t bm fm dim rv N B U bt bb base k lim v S (nearH vec lim (selB B NT.leaf.ents)) w):=by
 have HF:=Lib.hid (show TellPost F t bm fm dim rv N B U bt bb base k lim v S (nearH vec lim (selB B NT.leaf.ents)) w (.returned (.int .i64 (reachOf k lim (bst k S)))) w from ⟨rfl,v,s,Turn.refl _ w⟩)
 clear s
 generalize reachOf k lim (bst k S) = R at *
 unfold vclo
 go_enter Tryz.func107,Tryz.ntmps107
 go_wp2_with fail
 go_ret
 exact HF.out
structure AtN (w : World) (G : Nat -> Prop) (bb : Nat) (A : Option Addr) (n : Nat) (vec : List Int) (a b : NT) (lv bv : Value) (g : Nat) (id : Int) (nv : Value) (rad : Int) : Prop where
 cell : w.heap[g]? = some (.cells #[.int .i64 id,nv,.int .i64 rad,lv,bv] 228 (0,0))
 l : NodeAt w G lv a
 b : NodeAt w G bv b
 reads : Reads w bb 1 A n (ints vec)
theorem AtN.keep {G : Nat -> Prop} {A : Option Addr} {n : Nat} {vec : List Int} {a b : NT} {lv bv : Value} {g : Nat} {id : Int} {nv : Value} {rad : Int} (h : AtN w G bb A n vec a b lv bv g id nv rad) (hG : ∀ b,G b -> b < bb) (hg : g < bb) (hb : bb <= w.heap.size)
  (hk : ∀ b,b < bb -> b < w.heap.size -> w'.heap[b]? = w.heap[b]?) (hs : w.heap.size <= w'.heap.size) : AtN w' G bb A n vec a b lv bv g id nv rad :=
 ⟨(hk g hg (Array.getElem?_eq_some_iff.1 h.cell).1).trans h.cell,h.l.keep (fun b hb hlt=>hk b (hG b hb) hlt) hs,h.b.keep (fun b hb hlt=>hk b (hG b hb) hlt) hs,reads_far h.reads hb hk⟩
theorem seek_any {A : Option Addr} {n c : Nat} {vec : List Int} (hok : okV vec = true) (hdim : vec.length = dim) : ∀ (N' : NT) (w : World) (r v : Value) (S : List Hit),SkW w F t bm fm dim rv N B U bt bb base k lim v S -> NodeAt w (Core F t bm fm) r N' -> N'.Good dim -> Reads w bb 1 A n (ints vec) ->
  Calls Tryz.prog 107 #[r,.slice A n c,.int .i64 (reachOf k lim (bst k S)),vclo bt bb] w (TellPost F t bm fm dim rv N B U bt bb base k lim v S (nearH vec lim (selB B N'.ents)) w):=by
 intro N'
 induction N' with
 | leaf =>
  intro w r v S s hN _ _
  have e : r = .pointer none:=hN
  subst e
  exact seek_nil s
 | node id nvl rad a b iha ihb =>
  intro w r v S s hN hgood hR
  obtain ⟨g,nv,lv,bv,rfl,hg,hcell,hvec,hla,hlb⟩:=hN
  obtain ⟨hwf,hok1,hlen1,hr0,hr1,hina,hinb,hga,hgb⟩:=hgood
  have hgbb : g < bb:=s.below g hg.1
  have hbbs : bb <= w.heap.size:=Nat.le_of_lt s.near.lt
  have hGbb : ∀ b,Core F t bm fm b -> b < bb:=fun b hb=>s.below b hb.1
  have hAt : AtN w (Core F t bm fm) bb A n vec a b lv bv g id nv rad:=⟨hcell,hla,hlb,hR⟩
  obtain ⟨Av,cv,rfl,hRv⟩:=hvec.reads
  have hfl:=far_le hok1 hok (by omega)
  have hf0:=far_nonneg nvl vec
  have hfar:=vfar_any Av A nvl.length n cv c w.heap.size bb nvl vec w hRv hR hok1 hok (by omega)
  have htell:=fun q=>tell_any (s.under (below_drewN (Below.refl _ w) q)) (id,far nvl vec) hwf
  rw [oneH_near] at htell
  unfold hitV at htell
  have row : Row w g 228 [.int .i64 id,.slice Av nvl.length cv,.int .i64 rad,lv,bv]:=hcell
  have n0:=row.cell (j:=0) rfl
  have n1:=row.cell (j:=1) rfl
  have nl:=row.lt
  have HS:=Lib.hid (And.intro s (And.intro hAt (And.intro hGbb (And.intro hgbb (And.intro hga hgb)))))
  have HI:=Lib.hid (And.intro hina hinb)
  have HIA:=Lib.hid iha
  have HIB:=Lib.hid ihb
  have HL:=Lib.hid (And.intro hlen1 (And.intro (fun e he=>(hga.vec e he).2) (fun e he=>(hgb.vec e he).2)))
  clear s hAt hGbb hgbb hga hgb hina hinb iha ihb hcell hvec hla hlb hR hRv row hlen1 hok1
  generalize hD : far nvl vec = D at *
  have HD:=Lib.hid hD
  clear hD
  generalize hRE : reachOf k lim (bst k S) = RE at *
  have HRE:=Lib.hid hRE
  clear hRE
  unfold vclo
  go_enter Tryz.func107,Tryz.ntmps107
  go_wp2_with fail
  refine hfar.mono ?_
  rintro e w1 ⟨rfl,q,rfl⟩
  have h1:=HS.out.2.1.keep HS.out.2.2.1 HS.out.2.2.2.1 (Nat.le_of_lt HS.out.1.near.lt) (w':=w.drewN q) (fun _ _ _=>rfl) (Nat.le_refl _)
  have htl:=htell q
  have T1 : Turn (Own2 bb v) w (Own2 bb v) (w.drewN q):=Turn.drewN _ w q
  have s1:=HS.out.1.under (below_drewN (Below.refl _ w) q)
  generalize w.drewN q = w1 at *
  have row1 : Row w1 g 228 [.int .i64 id,.slice Av nvl.length cv,.int .i64 rad,lv,bv]:=h1.cell
  have n0:=row1.cell (j:=0) rfl
  have nl:=row1.lt
  have H1:=Lib.hid (And.intro s1 (And.intro h1 T1))
  clear h1 T1 s1 row1 n1 htell hfar
  go_wp2_with fail
  refine htl.mono ?_
  rintro e w2 ⟨rfl,v2,s2,T2⟩
  have h2:=H1.out.2.1.keep HS.out.2.2.1 HS.out.2.2.2.1 (Nat.le_of_lt H1.out.1.near.lt) (H1.out.1.far T2) T2.size
  have T02:=H1.out.2.2.trans T2
  generalize hR2 : reachOf k lim (bst k (nearH vec lim (selB B [(id,nvl)]) ++ S)) = R2
  have HR2:=Lib.hid hR2
  have row2 : Row w2 g 228 [.int .i64 id,.slice Av nvl.length cv,.int .i64 rad,lv,bv]:=h2.cell
  have n2:=row2.cell (j:=2) rfl
  have n3:=row2.cell (j:=3) rfl
  have n4:=row2.cell (j:=4) rfl
  have nl:=row2.lt
  have HK:=Lib.hid (show 0 < k from s2.k1)
  have H2:=Lib.hid (And.intro s2 (And.intro h2 T02))
  clear hR2 s2 h2 T02 T2 row2 n0 htl
  by_cases hsw : rad < D
  ·go_wp2_with fail
   go_quiet (fail)
   obtain ⟨q3,rfl⟩ : ∃ q3,q3 = nq:=⟨_,rfl⟩
   have H3:=Lib.hid (And.intro (H2.out.1.under (below_drewN (Below.refl _ w2) q3)) (And.intro (H2.out.2.1.keep HS.out.2.2.1 HS.out.2.2.2.1 (Nat.le_of_lt H2.out.1.near.lt) (w':=w2.drewN q3) (fun _ _ _=>rfl) (Nat.le_refl _)) (H2.out.2.2.trans (Turn.drewN _ w2 q3))))
   have hsk:=HIB.out (w2.drewN q3) bv v2 _ H3.out.1 H3.out.2.1.b HS.out.2.2.2.2.2 H3.out.2.1.reads
   rw [HR2.out] at hsk
   unfold vclo at hsk
   have row3 : Row (w2.drewN q3) g 228 [.int .i64 id,.slice Av nvl.length cv,.int .i64 rad,lv,bv]:=H3.out.2.1.cell
   have m2:=row3.cell (j:=2) rfl
   have ml:=row3.lt
   generalize w2.drewN q3 = w3 at *
   clear n2 n3 n4 nl row3
   go_wp2_with fail
   refine hsk.mono ?_
   rintro e w4 ⟨rfl,v4,s4,T4⟩
   have h4:=H3.out.2.1.keep HS.out.2.2.1 HS.out.2.2.2.1 (Nat.le_of_lt H3.out.1.near.lt) (H3.out.1.far T4) T4.size
   have T04:=H3.out.2.2.trans T4
   generalize hR4 : reachOf k lim (bst k (nearH vec lim (selB B b.ents) ++ (nearH vec lim (selB B [(id,nvl)]) ++ S))) = R4
   have HR4:=Lib.hid hR4
   have row4 : Row w4 g 228 [.int .i64 id,.slice Av nvl.length cv,.int .i64 rad,lv,bv]:=h4.cell
   have k2:=row4.cell (j:=2) rfl
   have kl4:=row4.lt
   have H4:=Lib.hid (And.intro s4 (And.intro h4 T04))
   clear hR4 s4 h4 T04 T4 row4 hsk m2 ml
   have hcmp0 : max D rad - min D rad = D - rad:=by omega
   by_cases hcmp : max D rad - min D rad <= R4
   ·have hok:=Lib.hid hcmp
    go_wp2_with fail
    go_quiet (fail)
    obtain ⟨q5,rfl⟩ : ∃ q5,q5 = nq:=⟨_,rfl⟩
    have H5:=Lib.hid (And.intro (H4.out.1.under (below_drewN (Below.refl _ w4) q5)) (And.intro (H4.out.2.1.keep HS.out.2.2.1 HS.out.2.2.2.1 (Nat.le_of_lt H4.out.1.near.lt) (w':=w4.drewN q5) (fun _ _ _=>rfl) (Nat.le_refl _)) (H4.out.2.2.trans (Turn.drewN _ w4 q5))))
    have hsk:=HIA.out (w4.drewN q5) lv v4 _ H5.out.1 H5.out.2.1.l HS.out.2.2.2.2.1 H5.out.2.1.reads
    rw [HR4.out] at hsk
    unfold vclo at hsk
    generalize w4.drewN q5 = w5 at *
    have hcmp1 : D - rad <= R4:=by omega
    clear k2 kl4 hcmp hcmp0
    go_wp2_with fail
    refine hsk.mono ?_
    rintro e w6 ⟨rfl,v6,s6,T6⟩
    have hp:=bst_perm (k:=k) (three_perm' (B:=B) (lim:=lim) (S:=S) (vec:=vec) (e:=(id,nvl)) (a:=a.ents) (b:=b.ents))
    have HF:=Lib.hid (show TellPost F t bm fm dim rv N B U bt bb base k lim v S (nearH vec lim (selB B (NT.node id nvl rad a b).ents)) w (.returned (.int .i64 (reachOf k lim (bst k (nearH vec lim (selB B a.ents) ++ (nearH vec lim (selB B b.ents) ++ (nearH vec lim (selB B [(id,nvl)]) ++ S))))))) w6 from
     ⟨by rw [hp];rfl,v6,s6.same hp (xs_lim HS.out.1.lim),H5.out.2.2.trans T6⟩)
    clear hp s6 T6 hsk
    generalize reachOf k lim (bst k (nearH vec lim (selB B a.ents) ++ (nearH vec lim (selB B b.ents) ++ (nearH vec lim (selB B [(id,nvl)]) ++ S)))) = R6 at *
    go_wp2_with fail
    go_ret
    exact HF.out
   ·have s4:=H4.out.1
    have hpr:=prune_in (k:=k) (dim:=dim) (rad:=rad) (nv:=nvl) (B:=B) (es:=a.ents) (lim:=lim) HK.out s4.lim HL.out.1 hdim (fun e he=>⟨HL.out.2.1 e he,HI.out.1 e he⟩) (by rw [HD.out,HR4.out];omega)
    have hp:=bst_perm (k:=k) (three_perm' (B:=B) (lim:=lim) (S:=S) (vec:=vec) (e:=(id,nvl)) (a:=a.ents) (b:=b.ents))
    have HF:=Lib.hid (fun q=>show TellPost F t bm fm dim rv N B U bt bb base k lim v S (nearH vec lim (selB B (NT.node id nvl rad a b).ents)) w (.returned (.int .i64 R4)) (w4.drewN q) from
     ⟨by rw [<- HR4.out,<- hpr,hp];rfl,v4,((H4.out.1.under (below_drewN (Below.refl _ w4) q)).same (hpr.symm.trans hp) (xs_lim HS.out.1.lim)),H4.out.2.2.trans (Turn.drewN _ w4 q)⟩)
    clear hp hpr s4
    go_wp2_with fail
    go_quiet (fail)
    go_wp2_with fail
    go_ret
    exact HF.out _
  ·go_wp2_with fail
   go_quiet (fail)
   obtain ⟨q3,rfl⟩ : ∃ q3,q3 = nq:=⟨_,rfl⟩
   have H3:=Lib.hid (And.intro (H2.out.1.under (below_drewN (Below.refl _ w2) q3)) (And.intro (H2.out.2.1.keep HS.out.2.2.1 HS.out.2.2.2.1 (Nat.le_of_lt H2.out.1.near.lt) (w':=w2.drewN q3) (fun _ _ _=>rfl) (Nat.le_refl _)) (H2.out.2.2.trans (Turn.drewN _ w2 q3))))
   have hsk:=HIA.out (w2.drewN q3) lv v2 _ H3.out.1 H3.out.2.1.l HS.out.2.2.2.2.1 H3.out.2.1.reads
   rw [HR2.out] at hsk
   unfold vclo at hsk
   have row3 : Row (w2.drewN q3) g 228 [.int .i64 id,.slice Av nvl.length cv,.int .i64 rad,lv,bv]:=H3.out.2.1.cell
   have m2:=row3.cell (j:=2) rfl
   have ml:=row3.lt
   generalize w2.drewN q3 = w3 at *
   clear n2 n3 n4 nl row3
   go_wp2_with fail
   refine hsk.mono ?_
   rintro e w4 ⟨rfl,v4,s4,T4⟩
   have h4:=H3.out.2.1.keep HS.out.2.2.1 HS.out.2.2.2.1 (Nat.le_of_lt H3.out.1.near.lt) (H3.out.1.far T4) T4.size
   have T04:=H3.out.2.2.trans T4
   generalize hR4 : reachOf k lim (bst k (nearH vec lim (selB B a.ents) ++ (nearH vec lim (selB B [(id,nvl)]) ++ S))) = R4
   have HR4:=Lib.hid hR4
   have row4 : Row w4 g 228 [.int .i64 id,.slice Av nvl.length cv,.int .i64 rad,lv,bv]:=h4.cell
   have k2:=row4.cell (j:=2) rfl
   have kl4:=row4.lt
   have H4:=Lib.hid (And.intro s4 (And.intro h4 T04))
   clear hR4 s4 h4 T04 T4 row4 hsk m2 ml
   have hcmp0 : max D rad - min D rad = rad - D:=by omega
   by_cases hcmp : max D rad - min D rad <= R4
   ·have hok:=Lib.hid hcmp
    go_wp2_with fail
    go_quiet (fail)
    obtain ⟨q5,rfl⟩ : ∃ q5,q5 = nq:=⟨_,rfl⟩
    have H5:=Lib.hid (And.intro (H4.out.1.under (below_drewN (Below.refl _ w4) q5)) (And.intro (H4.out.2.1.keep HS.out.2.2.1 HS.out.2.2.2.1 (Nat.le_of_lt H4.out.1.near.lt) (w':=w4.drewN q5) (fun _ _ _=>rfl) (Nat.le_refl _)) (H4.out.2.2.trans (Turn.drewN _ w4 q5))))
    have hsk:=HIB.out (w4.drewN q5) bv v4 _ H5.out.1 H5.out.2.1.b HS.out.2.2.2.2.2 H5.out.2.1.reads
    rw [HR4.out] at hsk
    unfold vclo at hsk
    generalize w4.drewN q5 = w5 at *
    have hcmp1 : rad - D <= R4:=by omega
    clear k2 kl4 hcmp hcmp0
    go_wp2_with fail
    refine hsk.mono ?_
    rintro e w6 ⟨rfl,v6,s6,T6⟩
    have hp:=bst_perm (k:=k) (three_perm (B:=B) (lim:=lim) (S:=S) (vec:=vec) (e:=(id,nvl)) (a:=b.ents) (b:=a.ents))
    have HF:=Lib.hid (show TellPost F t bm fm dim rv N B U bt bb base k lim v S (nearH vec lim (selB B (NT.node id nvl rad a b).ents)) w (.returned (.int .i64 (reachOf k lim (bst k (nearH vec lim (selB B b.ents) ++ (nearH vec lim (selB B a.ents) ++ (nearH vec lim (selB B [(id,nvl)]) ++ S))))))) w6 from
     ⟨by rw [hp];rfl,v6,s6.same hp (xs_lim HS.out.1.lim),H5.out.2.2.trans T6⟩)
    clear hp s6 T6 hsk
    generalize reachOf k lim (bst k (nearH vec lim (selB B b.ents) ++ (nearH vec lim (selB B a.ents) ++ (nearH vec lim (selB B [(id,nvl)]) ++ S)))) = R6 at *
    go_wp2_with fail
    go_ret
    exact HF.out
   ·have s4:=H4.out.1
    have hpr:=prune_out (k:=k) (dim:=dim) (rad:=rad) (nv:=nvl) (B:=B) (es:=b.ents) (lim:=lim) HK.out s4.lim HL.out.1 hdim (fun e he=>⟨HL.out.2.2 e he,HI.out.2 e he⟩) (by rw [HD.out,HR4.out];omega)
    have hp:=bst_perm (k:=k) (three_perm (B:=B) (lim:=lim) (S:=S) (vec:=vec) (e:=(id,nvl)) (a:=b.ents) (b:=a.ents))
    have HF:=Lib.hid (fun q=>show TellPost F t bm fm dim rv N B U bt bb base k lim v S (nearH vec lim (selB B (NT.node id nvl rad a b).ents)) w (.returned (.int .i64 R4)) (w4.drewN q) from
     ⟨by rw [<- HR4.out,<- hpr,hp];rfl,v4,((H4.out.1.under (below_drewN (Below.refl _ w4) q)).same (hpr.symm.trans hp) (xs_lim HS.out.1.lim)),H4.out.2.2.trans (Turn.drewN _ w4 q)⟩)
    clear hp hpr s4
    go_wp2_with fail
    go_quiet (fail)
    go_wp2_with fail
    go_ret
    exact HF.out _
end
end
end Go.Proofs.YtegjjhjgfkcbhaaGreatDoor
