/- SVof SText SNote. Conditions: as each part says. -/
import Derived.Test.YtegjjhjgfkcbhaaGreatDoorQ22
import Derived.Test.YtegjjhjgfkcbhaaGreatDoorQ08
import Derived.Test.YtegjjhjgfkcbhaaGreatDoorQ10
import Derived.Test.YtegjjhjgfkcbhaaGreatDoorQ20
import Derived.Test.YtegjjhjgfkcbhaaGreatDoorQ21
import Derived.Test.YtegjjhjgfkcbhaaGreatDoorQ24
import Derived.Deep.RegionHeld3
import Derived.Deep.RegionLaw
import Derived.BigRegion
set_option linter.unusedVariables false
set_option linter.unusedSimpArgs false
set_option maxRecDepth 100000
set_option maxHeartbeats 16000000
namespace Go.Proofs.YtegjjhjgfkcbhaaGreatDoor
section
open Go Go.RowKit
theorem take_tN (l : List Int) {k : Nat} (hk : k < l.length) : (l.take (k + 1)).map Be.tN = (l.take k).map Be.tN ++ [Be.tN (l.getD k 0)]:=by
 rw [List.take_succ_eq_append_getElem hk,List.map_append,List.getD_eq_getElem?_getD,List.getElem?_eq_getElem hk]
 rfl
theorem valueOf_pt (x : Int) (A : Option Addr) (n c B : Nat) (l : List Int) (w : World) (hR : Reads w B 1 A n (ints l)) (hB : B <= w.heap.size) (hn : n <= 16) :
  Calls Tryz.prog 133 #[.agg #[.int .i64 x,.slice A n c]] w (fun e w'=>∃ A' c',e = .returned (.agg #[.int .i64 3,.int .i64 0,.string ⟨#[]⟩,.slice A' (l.length + 1) c']) /\ Be.RdA (fun b=>w.heap.size <= b) w' (ptT (x,l)) (.agg #[.int .i64 3,.int .i64 0,.string ⟨#[]⟩,.slice A' (l.length + 1) c']) /\ Below w.heap.size w w'):=by
 have HLn:=Lib.hid hR.len
 have hln1 : l.length <= 16:=by have:=HLn.out;omega
 obtain ⟨W,hW⟩ : ∃ W,(w.alloc (.cells #[.int .i64 x,.slice A n c] 104)).alloc (.cells #[.int .i64 0,.int .i64 0,.string ⟨#[]⟩,.slice none 0 0] 202) = W:=⟨_,rfl⟩
 have hbW : Below w.heap.size w W:=by rw [<- hW];exact ((Below.refl _ _).alloc (Nat.le_refl _) _).alloc (by simp) _
 have hr1 : Row W w.heap.size 104 [.int .i64 x,.slice A n c]:=by
  rw [<- hW]
  exact (Row.new w 104 [.int .i64 x,.slice A n c]).keep (heap_alloc_lt _ _ (by simp))
 have hr2 : Row W (w.heap.size + 1) 202 [.int .i64 0,.int .i64 0,.string ⟨#[]⟩,.slice none 0 0]:=by
  rw [<- hW]
  have:=Row.new (w.alloc (.cells #[.int .i64 x,.slice A n c] 104)) 202 [.int .i64 0,.int .i64 0,.string ⟨#[]⟩,.slice none 0 0]
  simpa using this
 have hsW : w.heap.size + 2 = W.heap.size:=by rw [<- hW];simp
 have hWl:=Lib.hid hW
 clear hW
 have c0 : W.cell? ⟨w.heap.size,0,none⟩ = some (.int .i64 x):=hr1.cell rfl
 have HI:=Lib.hid (Be.int_any x W)
 go_enter Tryz.func133,Tryz.ntmps133
 go_wp2_with fail
 rw [hWl.out]
 go_wp2_with fail
 refine HI.out.mono ?_
 rintro e w1 ⟨rfl,hb1⟩
 have V1:=Be.VRow.one (n:=x) (w0:=W) hb1
 have hb2 : Below W.heap.size W (w1.alloc (.cells (Be.ncell x).toArray 202)):=V1.bel
 have c1 : (w1.alloc (.cells #[.int .i64 1,.int .i64 x,.string ⟨#[]⟩,.slice none 0 0] 202)).cell? ⟨w.heap.size,1,none⟩ = some (.slice A n c):=(hb2.cell (p:=⟨w.heap.size,1,none⟩) (by simp;omega)).trans (hr1.cell rfl)
 have HWr:=Lib.hid hr2
 have hx12 : (1 : Nat) <= 1:=Nat.le_refl _
 clear c0 HI hr1 hr2
 go_wp2_with fail
 go_loopw [3,13] (fun v i wr=>∃ (k : Nat) (xs' : List Value),i = .int .i64 (k : Int) /\ k <= n /\ Be.VRow W wr v (Be.tN x :: (l.take k).map Be.tN) xs') (fun _ i _=>n - (intOf i).toNat)
 case atStart=>exact ⟨0,_,rfl,Nat.zero_le _,V1⟩
 case round =>
  obtain ⟨k,xs',rfl,hk,hV⟩:=hrel
  have hlen:=Lib.hid (show (Be.tN x :: (l.take k).map Be.tN).length = k + 1 by have:=HLn.out;simp;omega)
  by_cases hlt : k < n
  ·have hltz : (k : Int) < (n : Int):=by omega
   obtain ⟨ad,rfl,hadB,hc⟩:=hR.int_at hlt
   have hwr : Below w.heap.size w wr:=hbW.trans (hV.bel.mono hbW.size)
   have hc' : wr.cell? (ad.add k) = some (.int .i64 (l.getD k 0)):=(hwr.cell (p:=ad.add k) (by rw [block_of_add];omega)).trans hc
   have htk:=take_tN l (k:=k) (by have:=HLn.out;omega)
   obtain ⟨y,hy⟩ : ∃ y,l.getD k 0 = y:=⟨_,rfl⟩
   rw [hy] at hc' htk
   have HTK:=Lib.hid htk
   have HV:=Lib.hid hV
   clear htk hy hc hR
   go_wp2_with fail
   refine (Be.int_any y _).mono ?_
   rintro e w2 ⟨rfl,hb2⟩
   have hown:=(HV.out.below hb2).own
   rw [hlen.out] at hown
   have hs2 : W.heap.size <= w2.heap.size:=Nat.le_trans HV.out.bel.size hb2.size
   go_wp2_with (at_builtin;refine Be.append_value rfl (.tmp 17) (.tmp 20) rfl W.heap.size _ (k + 1) xs' _ _ _ _ (by intro u hu;simp at hu;rcases hu with rfl | rfl | rfl | rfl <;> rfl) rfl hown rfl (by omega) hs2 ?_;intro v2 w3 hown2 hgr2 hob2)
   have hsn:=HV.out.snoc hb2 (Be.rd_tN y w2 _) (by rw [hlen.out];exact hown2) hgr2 hob2
   rw [List.cons_append,<- HTK.out] at hsn
   exact ⟨⟨k + 1,_,by go_num,by omega,hsn⟩,by simp [intOf];omega⟩
  ·obtain rfl : k = n:=by omega
   obtain ⟨A2,c2,rfl,_,_⟩:=hV.shape
   have htk : l.take k = l:=List.take_of_length_le (by have:=HLn.out;omega)
   have hL:=Be.lst_any hV (by rw [hlen.out];omega)
   have hs1:=hV.bel.size
   have he : (Be.tN x :: (l.take k).map Be.tN).length = k + 1:=hlen.out
   unfold Be.LstPost at hL
   rw [he,htk] at hL
   have HL:=Lib.hid hL
   have HB:=Lib.hid hV.bel
   rw [he]
   clear hL htk hlen he hV
   go_wp2_with fail
   refine HL.out.mono ?_
   rintro e w5 ⟨A5,c5,rfl,hRA,hb5⟩
   have hr5:=HWr.out.keep (hb5.block _ (by omega))
   have k0:=hr5.cell (j:=0) rfl
   have k1:=hr5.cell (j:=1) rfl
   have k2:=hr5.cell (j:=2) rfl
   have k3:=hr5.cell (j:=3) rfl
   have k5:=hr5.lt
   have kf:=fun j=>hr5.frozen j
   go_wp2_with fail
   refine bodyPost_ret (v:=.agg #[.int .i64 3,.int .i64 0,.string ⟨#[]⟩,.slice A5 (k + 1) c5]) (by simp [results,Tryz.results133,go_sem,k0,k1,k2,k3,k5]) rfl ⟨A5,c5,?_,?_,?_⟩
   ·rw [<- HLn.out]
   ·rw [<- HLn.out]
    exact (hRA.keep ((((Be.Keeps.setCell (Be.Keeps.refl _ _) ⟨w.heap.size + 1,0,none⟩ (by simp;omega) _).setCell ⟨w.heap.size + 1,1,none⟩ (by simp;omega) _).setCell ⟨w.heap.size + 1,2,none⟩ (by simp;omega) _).setCell ⟨w.heap.size + 1,3,none⟩ (by simp;omega) _)).mono (ok':=fun b=>w.heap.size <= b) (fun b hb _=>by omega)
   ·exact ((((hbW.trans (hb5.mono (by omega))).setCell (by simp) _).setCell (by simp) _).setCell (by simp) _).setCell (by simp) _
end
section
open Go Go.RowKit
def rcl (r : Rec) (v : Value) : List Value:=[.int .i64 r.kd,.int .i64 r.st,.int .i64 r.ep,.int .i64 r.mv,.int .i64 r.vr,.int .i64 r.dm,.int .i64 r.cl,.int .i64 r.sq,.string r.tb,v]
theorem nums_idx (r : Rec) : r.nums.length = (idxs r.kd).length:=by
 unfold Rec.nums idxs
 split
 ·rfl
 ·split
  ·rfl
  ·split <;> rfl
theorem nums_at (r : Rec) (X : Nat) (v : Value) {k : Nat} (hk : k < (idxs r.kd).length) : ∃ j,(idxP X r.kd)[k]? = some (.pointer (some ⟨X,j,none⟩)) /\ (rcl r v)[j]? = some (.int .i64 (r.nums.getD k 0)):=by
 unfold idxP
 unfold idxs at hk ⊢
 unfold Rec.nums
 by_cases h1 : r.kd = 1
 ·simp only [h1,if_true] at hk ⊢
  simp only [List.length_cons,List.length_nil] at hk
  rcases k with _ | _ | _ | _ | _ | k
  ·exact ⟨1,rfl,rfl⟩
  ·exact ⟨2,rfl,rfl⟩
  ·exact ⟨3,rfl,rfl⟩
  ·exact ⟨4,rfl,rfl⟩
  ·exact ⟨5,rfl,rfl⟩
  ·omega
 ·simp only [h1,if_false] at hk ⊢
  by_cases h3 : r.kd = 3
  ·simp only [h3,if_true] at hk ⊢
   simp only [List.length_cons,List.length_nil] at hk
   rcases k with _ | _ | _ | k
   ·exact ⟨1,rfl,rfl⟩
   ·exact ⟨2,rfl,rfl⟩
   ·exact ⟨3,rfl,rfl⟩
   ·omega
  ·simp only [h3,if_false] at hk ⊢
   by_cases h4 : r.kd = 4 \/ r.kd = 5
   ·simp only [h4,if_true] at hk ⊢
    simp only [List.length_cons,List.length_nil] at hk
    rcases k with _ | _ | k
    ·exact ⟨6,rfl,rfl⟩
    ·exact ⟨7,rfl,rfl⟩
    ·omega
   ·simp only [h4,if_false] at hk
    simp at hk
theorem take_ptT (l : List Pt) {k : Nat} (hk : k < l.length) : ((l.take (k + 1)).map bareP).map ptT = ((l.take k).map bareP).map ptT ++ [ptT (bareP (ptAt l k))]:=by
 unfold ptAt
 rw [List.take_succ_eq_append_getElem hk,List.map_append,List.map_append,List.getD_eq_getElem?_getD,List.getElem?_eq_getElem hk]
 rfl
theorem tbT_len (s : ByteArray) : (tbT s).length <= 1:=by
 unfold tbT
 split <;> simp
theorem ncell_one (n : Int) : ∀ u ∈ Be.ncell n,u.oneCell' = true:=by
 intro u hu
 simp [Be.ncell] at hu
 rcases hu with rfl | rfl | rfl | rfl <;> rfl
structure TxW (w W : World) (r : Rec) (A : Option Addr) (n c : Nat) (l : List Pt) : Prop where
 row : Row W w.heap.size 107 (rcl r (.slice A n c))
 pts : Pts W w.heap.size A n l
 bel : Below w.heap.size w W
 lt : w.heap.size < W.heap.size
theorem TxW.mk' (w : World) (r : Rec) (A : Option Addr) (n c : Nat) (l : List Pt) (h : Pts w w.heap.size A n l) : TxW w (w.alloc (.cells #[.int .i64 r.kd,.int .i64 r.st,.int .i64 r.ep,.int .i64 r.mv,.int .i64 r.vr,.int .i64 r.dm,.int .i64 r.cl,.int .i64 r.sq,.string r.tb,.slice A n c] 107)) r A n c l:=by
 have hb : Below w.heap.size w (w.alloc (.cells #[.int .i64 r.kd,.int .i64 r.st,.int .i64 r.ep,.int .i64 r.mv,.int .i64 r.vr,.int .i64 r.dm,.int .i64 r.cl,.int .i64 r.sq,.string r.tb,.slice A n c] 107)):=(Below.refl _ _).alloc (Nat.le_refl _) _
 exact ⟨Row.new w 107 (rcl r (.slice A n c)),h.below hb,hb,by simp⟩
theorem TxW.on {w W W' : World} {r : Rec} {A : Option Addr} {n c : Nat} {l : List Pt} (h : TxW w W r A n c l) (hb : Below W.heap.size W W') : TxW w W' r A n c l :=
 ⟨h.row.keep (hb.block _ h.lt),h.pts.below (hb.mono (Nat.le_of_lt h.lt)),h.bel.trans (hb.mono (Nat.le_of_lt h.lt)),Nat.lt_of_lt_of_le h.lt hb.size⟩
theorem reads_apart {w w' : World} {B n size : Nat} {A : Option Addr} {xs : List Value} {row : Option Nat} (h : Reads w B size A n xs) (hg : w.grownBy w' row) (hB : B <= w.heap.size) (hr : ∀ ad,A = some ad -> row ≠ some ad.block) : Reads w' w'.heap.size size A n xs :=
 ⟨h.1,fun hn=>by
  obtain ⟨ad,e,hb,hc⟩:=h.2 hn
  have hs:=hg.size
  exact ⟨ad,e,by omega,fun j u hu=>(World.cell?_of_block (a:=ad.add j) (by rw [block_of_add];exact hg.block _ (by omega) (fun x=>hr ad e x.symm))).trans (hc j u hu)⟩⟩
theorem text_mid {r : Rec} {w0 wr w1 w2 : World} {v v' : Value} {xs cs : List Value} (h : Be.VRow w0 wr v (Be.tN r.kd :: r.nums.map Be.tN) xs) (hts : tbT r.tb = [.mk 2 0 r.tb []]) (hb1 : Below wr.heap.size wr w1) (ht : Be.Rd (fun b=>wr.heap.size <= b) w1 (.mk 2 0 r.tb []) cs) (hown : w2.ownsRow w0.heap.size 202 4 v' ((Be.tN r.kd :: r.nums.map Be.tN).length + 1) (xs ++ cs)) (hgr : w1.grownBy w2 v.ownBlock) (hb : v'.ownBlock = v.ownBlock \/ ∀ k,v'.ownBlock = some k -> w1.heap.size <= k) : Be.VRow w0 w2 v' (Be.tN r.kd :: (r.nums.map Be.tN ++ tbT r.tb)) (xs ++ cs):=by
 have:=h.snoc hb1 ht hown hgr hb
 rw [hts]
 exact this
theorem rtext_any (r : Rec) (A : Option Addr) (n c : Nat) (l : List Pt) (w : World) (hok : r.Ok) (hP : Pts w w.heap.size A n l) (hl : l.map bareP = r.ps) (hT : Be.Tabs w w.heap.size) :
  Calls Tryz.prog 85 #[.agg #[.int .i64 r.kd,.int .i64 r.st,.int .i64 r.ep,.int .i64 r.mv,.int .i64 r.vr,.int .i64 r.dm,.int .i64 r.cl,.int .i64 r.sq,.string r.tb,.slice A n c]] w fun e w'=>e = .returned (.string ⟨(recB r).toArray⟩) /\ Below w.heap.size w w':=by
 obtain ⟨W,hW⟩ : ∃ W,w.alloc (.cells #[.int .i64 r.kd,.int .i64 r.st,.int .i64 r.ep,.int .i64 r.mv,.int .i64 r.vr,.int .i64 r.dm,.int .i64 r.cl,.int .i64 r.sq,.string r.tb,.slice A n c] 107) = W:=⟨_,rfl⟩
 have hX:=TxW.mk' w r A n c l hP
 rw [hW] at hX
 have hWl:=Lib.hid hW
 have HX:=Lib.hid hX
 have hPn:=Lib.hid hP.len
 have hn128 : n <= 128:=by
  have:=hok.few
  rw [<- hl,List.length_map,<- hP.len] at this
  exact this
 have c0 : W.cell? ⟨w.heap.size,0,none⟩ = some (.int .i64 r.kd):=hX.row.cell rfl
 have xl:=hX.lt
 have HI:=Lib.hid (Be.int_any r.kd W)
 have HOK:=Lib.hid hok
 have HLB:=Lib.hid hl
 have HT:=Lib.hid hT
 clear hX hW hP hok hl hT
 go_enter Tryz.func85,Tryz.ntmps85
 go_wp2_with fail
 rw [hWl.out]
 go_wp2_with fail
 refine HI.out.mono ?_
 rintro e w1 ⟨rfl,hb1⟩
 have V1:=Be.VRow.one (n:=r.kd) (w0:=W) hb1
 have HN:=Lib.hid (nums_any (HX.out.on V1.bel).row)
 have HV1:=Lib.hid V1
 clear V1 c0 HI
 go_wp2_with fail
 refine HN.out.mono ?_
 rintro e w2 ⟨A2,n2,c2,rfl,hn2,hR2,hf2,hb2⟩
 have hnl:=nums_idx r
 have HN2:=Lib.hid hn2
 have HNL:=Lib.hid hnl
 have hn5 : n2 <= 5:=by rw [hn2,<- hnl];exact nums_len r
 clear hn2 hnl
 have HV2:=Lib.hid (HV1.out.below hb2)
 have hv2 : ∀ ad,A2 = some ad -> (Value.slice (some ⟨w1.heap.size,0,none⟩) 1 1).ownBlock ≠ some ad.block:=fun ad h e=>by
  have:=hf2 ad h
  simp only [Value.ownBlock,Option.some.injEq] at e
  simp at this
  omega
 have HR2:=Lib.hid hR2
 have hs2:=Lib.hid (HV2.out.bel.size)
 have HV2':=Lib.hid hv2
 clear hR2 hv2 hf2
 go_wp2_with fail
 go_loopw [3,16] (fun v i wr=>∃ (k : Nat) (xs' : List Value),i = .int .i64 (k : Int) /\ k <= n2 /\ Be.VRow W wr v (Be.tN r.kd :: (r.nums.take k).map Be.tN) xs' /\ Reads wr wr.heap.size 1 A2 n2 (idxP w.heap.size r.kd) /\ ∀ ad,A2 = some ad -> v.ownBlock ≠ some ad.block) (fun _ i _=>n2 - (intOf i).toNat)
 case atStart=>exact ⟨0,_,rfl,Nat.zero_le _,HV2.out,HR2.out,HV2'.out⟩
 case round =>
  obtain ⟨k,xs',rfl,hk,hV,hRr,hvr⟩:=hrel
  have HRR:=Lib.hid hRr
  have HVR:=Lib.hid hvr
  clear hRr hvr
  have hlen:=Lib.hid (show (Be.tN r.kd :: (r.nums.take k).map Be.tN).length = k + 1 by have:=HN2.out;have:=HNL.out;simp;omega)
  by_cases hlt : k < n2
  ·have hltz : (k : Int) < (n2 : Int):=by omega
   obtain ⟨j,hj1,hj2⟩:=nums_at r w.heap.size (.slice A n c) (k:=k) (by have:=HN2.out;omega)
   obtain ⟨ad,u,rfl,hadB,hu,hcr⟩:=HRR.out.at_ hlt
   have hu2 : u = .pointer (some ⟨w.heap.size,j,none⟩):=Option.some.inj (hu.symm.trans hj1)
   subst hu2
   have hcx : wr.cell? ⟨w.heap.size,j,none⟩ = some (.int .i64 (r.nums.getD k 0)):=(HX.out.on hV.bel).row.cell hj2
   have hxl : w.heap.size < wr.heap.size:=(HX.out.on hV.bel).lt
   have htk:=take_tN r.nums (k:=k) (by have:=HN2.out;have:=HNL.out;omega)
   obtain ⟨y,hy⟩ : ∃ y,r.nums.getD k 0 = y:=⟨_,rfl⟩
   rw [hy] at hcx htk
   have HTK:=Lib.hid htk
   have HV:=Lib.hid hV
   clear htk hy hu hj1 hj2 hV
   go_wp2_with fail
   refine (Be.int_any y _).mono ?_
   rintro e w3 ⟨rfl,hb3⟩
   have hown:=(HV.out.below hb3).own
   rw [hlen.out] at hown
   have hs3 : W.heap.size <= w3.heap.size:=Nat.le_trans HV.out.bel.size hb3.size
   go_wp2_with (at_builtin;refine Be.append_value rfl (.tmp 20) (.tmp 25) rfl W.heap.size _ (k + 1) xs' _ _ _ _ (ncell_one y) rfl hown rfl (by omega) hs3 ?_;intro v2 w4 hown2 hgr2 hob2)
   have hsn:=HV.out.snoc hb3 (Be.rd_tN y w3 _) (by rw [hlen.out];exact hown2) hgr2 hob2
   have hR4:=reads_apart (HRR.out.below (hb3.mono (Nat.le_refl _))) hgr2 hb3.size HVR.out
   have hv4 : ∀ ad',(some ad : Option Addr) = some ad' -> v2.ownBlock ≠ some ad'.block:=fun ad' h e=>by
    rcases hob2 with h1 | h1
    ·exact HVR.out ad' h (h1 ▸ e)
    ·have h2:=h1 _ e
     cases h
     have:=hb3.size
     omega
   rw [List.cons_append,<- HTK.out] at hsn
   exact ⟨⟨k + 1,_,by go_num,by omega,hsn,hR4,hv4⟩,by simp [intOf];omega⟩
  ·obtain rfl : k = n2:=by omega
   have htk0 : r.nums.take k = r.nums:=List.take_of_length_le (by have:=HN2.out;have:=HNL.out;omega)
   rw [htk0] at hV hlen
   have HLN:=Lib.hid hlen.out
   have HB3:=Lib.hid hV.bel
   have HX3:=Lib.hid (HX.out.on hV.bel)
   have c8 : wr.cell? ⟨w.heap.size,8,none⟩ = some (.string r.tb):=HX3.out.row.cell rfl
   have xl3:=HX3.out.lt
   have hW3:=Lib.hid hV.bel.size
   obtain ⟨wo,rfl⟩ : ∃ wo,wo = wr:=⟨_,rfl⟩
   by_cases htb : r.tb.size = 0
   ·have htb0 : r.tb = ByteArray.empty:=by
     refine ByteArray.ext ?_
     exact Array.eq_empty_of_size_eq_zero htb
    have hts : tbT r.tb = []:=by unfold tbT;rw [if_pos htb]
    have HV4:=Lib.hid (show Be.VRow W wo u3 (Be.tN r.kd :: (r.nums.map Be.tN ++ tbT r.tb)) xs' by rw [hts,List.append_nil];exact hV)
    have HX4:=HX3
    have hem : r.tb.toList.isEmpty = true:=by rw [htb0];simp
    have HTS:=Lib.hid hts
    clear hts htb htb0 hV hlen htk0
    obtain ⟨L0,hL0⟩ : ∃ L0,(Be.tN r.kd :: (r.nums.map Be.tN ++ tbT r.tb)).length = L0:=⟨_,rfl⟩
    have hL07 : L0 <= 8:=by rw [<- hL0];have:=HNL.out;have:=HN2.out;have:=tbT_len r.tb;simp;omega
    have HL0:=Lib.hid hL0
    have c9 : wo.cell? ⟨w.heap.size,9,none⟩ = some (.slice A n c):=HX4.out.row.cell rfl
    clear hL0
    go_wp2_with fail
    go_loopw [3,40] (fun v i wr=>∃ (k : Nat) (xs' : List Value),i = .int .i64 (k : Int) /\ k <= n /\ Be.VRow W wr v (Be.tN r.kd :: (r.nums.map Be.tN ++ tbT r.tb) ++ ((l.take k).map bareP).map ptT) xs') (fun _ i _=>n - (intOf i).toNat)
    case atStart=>exact ⟨0,_,rfl,Nat.zero_le _,by simpa using HV4.out⟩
    case round =>
     obtain ⟨k,xs',rfl,hk,hV⟩:=hrel
     have HL:=Lib.hid (show (Be.tN r.kd :: (r.nums.map Be.tN ++ tbT r.tb) ++ ((l.take k).map bareP).map ptT).length = L0 + k by
      rw [List.length_append,HL0.out];have:=hPn.out;simp;omega)
     have HXq:=Lib.hid (HX.out.on hV.bel)
     by_cases hlt : k < n
     ·have hltz : (k : Int) < (n : Int):=by omega
      obtain ⟨ad,rfl,hadB,hkl,hc1,hc2,hg⟩:=HXq.out.pts.at_ hlt
      have htk:=take_ptT l hkl
      have hpm:=ptAt_mem hkl
      obtain ⟨pt,hpt⟩ : ∃ pt,ptAt l k = pt:=⟨_,rfl⟩
      rw [hpt] at hc1 hc2 hg htk hpm
      have hpo : OkPnt (bareP pt):=HOK.out.pts _ (by rw [<- HLB.out];exact List.mem_map_of_mem hpm)
      obtain ⟨px,⟨pA,pn,pc⟩,pl⟩:=pt
      have HTK:=Lib.hid (show ((l.take (k + 1)).map bareP).map ptT = ((l.take k).map bareP).map ptT ++ [ptT (px,pl)] from htk)
      obtain ⟨⟨hgR,hgm⟩,hgw⟩:=hg
      simp only at hc1 hc2 hgR hgm
      have hpl : pn <= 16:=by have:=hpo.vec.1;rw [hgR.len];exact this
      have HGR:=Lib.hid hgR
      have HV:=Lib.hid hV
      have hbq : Below wr.heap.size wr (wr.alloc (.cells #[.int .i64 px,.slice pA pn pc] 104)):=(Below.refl _ _).alloc (Nat.le_refl _) _
      have hwr : w.heap.size <= wr.heap.size:=Nat.le_of_lt HXq.out.lt
      have HCV:=Lib.hid (valueOf_pt px pA pn pc w.heap.size pl _ (HGR.out.below (hbq.mono hwr)) (Nat.le_trans hwr hbq.size) hpl)
      have hpl2 : pl.length + 1 <= 17:=by have:=HGR.out.len;omega
      clear htk hpt hpm hpo hgw hV hgR
      go_wp2_with fail
      refine HCV.out.mono ?_
      rintro e w6 ⟨A6,c6,rfl,hRA,hb6⟩
      have hb6' : Below wr.heap.size wr w6:=hbq.trans (hb6.mono hbq.size)
      have hrd:=Be.four_rd hRA hbq.size
      have hown:=(HV.out.below hb6').own
      rw [HL.out] at hown
      have hs6 : W.heap.size <= w6.heap.size:=Nat.le_trans HV.out.bel.size hb6'.size
      go_wp2_with (at_builtin;refine Be.append_value rfl (.tmp 44) (.tmp 47) rfl W.heap.size _ (L0 + k) xs' _ _ _ _ (Be.Rd.one _ _ hrd) rfl hown rfl (by omega) hs6 ?_;intro v2 w7 hown2 hgr2 hob2)
      have hsn:=HV.out.snoc hb6' hrd (by rw [HL.out];exact hown2) hgr2 hob2
      rw [List.append_assoc] at hsn
      rw [<- HTK.out] at hsn
      exact ⟨⟨k + 1,_,by go_num,by omega,hsn⟩,by simp [intOf];omega⟩
     ·obtain rfl : k = n:=by omega
      have htk : (l.take k).map bareP = r.ps:=by rw [List.take_of_length_le (by have:=hPn.out;omega)];exact HLB.out
      rw [htk] at hV HL
      have hts : Be.tN r.kd :: (r.nums.map Be.tN ++ tbT r.tb) ++ r.ps.map ptT = recL r:=by unfold recL;simp
      rw [hts] at hV HL
      obtain ⟨A8,c8',rfl,_,_⟩:=hV.shape
      have hlst:=Be.lst_any hV (by rw [HL.out];omega)
      have he:=HL.out
      unfold Be.LstPost at hlst
      rw [he] at hlst
      rw [he]
      have HLS:=Lib.hid hlst
      clear hlst hts htk he hV HL
      go_wp2_with fail
      refine HLS.out.mono ?_
      rintro e w8 ⟨A9,c9',rfl,hRA,hb8⟩
      obtain ⟨a1,a2,a3,a4,a5⟩:=recT_facts HOK.out
      have hbw8 : Below w.heap.size w w8:=HX.out.bel.trans (hb8.mono (Nat.le_of_lt HX.out.lt))
      have HPU:=Lib.hid (Be.lst_put hRA a3 (recT_gd HOK.out) ((Be.Tabs.on HT.out hbw8).up hbw8.size))
      go_wp2_with fail
      refine HPU.out.mono ?_
      rintro e w9 ⟨rfl,hb9⟩
      go_wp2_with fail
      go_ret
      exact ⟨rfl,hbw8.trans (hb9.mono hbw8.size)⟩
   ·have hts : tbT r.tb = [.mk 2 0 r.tb []]:=by unfold tbT;rw [if_neg htb]
    have hem : r.tb.toList.isEmpty = false:=by
     rw [Bool.eq_false_iff]
     intro h
     apply htb
     have h1:=List.isEmpty_iff.1 h
     rw [Go.ByteArray.toList_eq] at h1
     have h2 : r.tb.data.size = 0:=by rw [<- Array.length_toList,h1];rfl
     exact h2
    have hsz : r.tb.size <= 1000000000:=by have:=HOK.out.tb;omega
    have HTS:=Lib.hid hts
    have HVo:=Lib.hid hV
    clear hts htb hV hlen htk0
    go_wp2_with fail
    refine (Be.str_any r.tb hsz _).mono ?_
    rintro e wS ⟨rfl,hbS⟩
    have hown:=(HVo.out.below hbS).own
    rw [HLN.out] at hown
    have hsS : W.heap.size <= wS.heap.size:=Nat.le_trans HVo.out.bel.size hbS.size
    have hrdS : Be.Rd (fun b=>wo.heap.size <= b) wS (.mk 2 0 r.tb []) [.int .i64 2,.int .i64 0,.string r.tb,.slice none 0 0]:=⟨none,0,[],rfl,by unfold maxLen;omega,by simp,by simp [maxLen],Be.ReadsP.none_,rfl⟩
    go_wp2_with (at_builtin;refine Be.append_value rfl (.tmp 31) (.tmp 35) rfl W.heap.size _ (k + 1) xs' _ _ _ _ (by intro u hu;simp at hu;rcases hu with rfl | rfl | rfl | rfl <;> rfl) rfl hown rfl (by omega) hsS ?_;intro vS wT hownT hgrT hobT;have HV4:=Lib.hid (text_mid HVo.out HTS.out hbS hrdS (by rw [HLN.out];exact hownT) hgrT hobT);have HX4:=Lib.hid (HX.out.on HV4.out.bel);have c9 : wT.cell? ⟨w.heap.size,9,none⟩ = some (.slice A n c):=HX4.out.row.cell rfl)
    obtain ⟨L0,hL0⟩ : ∃ L0,(Be.tN r.kd :: (r.nums.map Be.tN ++ tbT r.tb)).length = L0:=⟨_,rfl⟩
    have hL07 : L0 <= 8:=by rw [<- hL0];have:=HNL.out;have:=HN2.out;have:=tbT_len r.tb;simp;omega
    have HL0:=Lib.hid hL0
    clear hL0
    go_loopw [3,40] (fun v i wr=>∃ (k : Nat) (xs' : List Value),i = .int .i64 (k : Int) /\ k <= n /\ Be.VRow W wr v (Be.tN r.kd :: (r.nums.map Be.tN ++ tbT r.tb) ++ ((l.take k).map bareP).map ptT) xs') (fun _ i _=>n - (intOf i).toNat)
    case atStart=>exact ⟨0,_,rfl,Nat.zero_le _,by simpa using HV4.out⟩
    case round =>
     obtain ⟨k,xs',rfl,hk,hV⟩:=hrel
     have HL:=Lib.hid (show (Be.tN r.kd :: (r.nums.map Be.tN ++ tbT r.tb) ++ ((l.take k).map bareP).map ptT).length = L0 + k by
      rw [List.length_append,HL0.out];have:=hPn.out;simp;omega)
     have HXq:=Lib.hid (HX.out.on hV.bel)
     by_cases hlt : k < n
     ·have hltz : (k : Int) < (n : Int):=by omega
      obtain ⟨ad,rfl,hadB,hkl,hc1,hc2,hg⟩:=HXq.out.pts.at_ hlt
      have htk:=take_ptT l hkl
      have hpm:=ptAt_mem hkl
      obtain ⟨pt,hpt⟩ : ∃ pt,ptAt l k = pt:=⟨_,rfl⟩
      rw [hpt] at hc1 hc2 hg htk hpm
      have hpo : OkPnt (bareP pt):=HOK.out.pts _ (by rw [<- HLB.out];exact List.mem_map_of_mem hpm)
      obtain ⟨px,⟨pA,pn,pc⟩,pl⟩:=pt
      have HTK:=Lib.hid (show ((l.take (k + 1)).map bareP).map ptT = ((l.take k).map bareP).map ptT ++ [ptT (px,pl)] from htk)
      obtain ⟨⟨hgR,hgm⟩,hgw⟩:=hg
      simp only at hc1 hc2 hgR hgm
      have hpl : pn <= 16:=by have:=hpo.vec.1;rw [hgR.len];exact this
      have HGR:=Lib.hid hgR
      have HV:=Lib.hid hV
      have hbq : Below wr.heap.size wr (wr.alloc (.cells #[.int .i64 px,.slice pA pn pc] 104)):=(Below.refl _ _).alloc (Nat.le_refl _) _
      have hwr : w.heap.size <= wr.heap.size:=Nat.le_of_lt HXq.out.lt
      have HCV:=Lib.hid (valueOf_pt px pA pn pc w.heap.size pl _ (HGR.out.below (hbq.mono hwr)) (Nat.le_trans hwr hbq.size) hpl)
      have hpl2 : pl.length + 1 <= 17:=by have:=HGR.out.len;omega
      clear htk hpt hpm hpo hgw hV hgR
      go_wp2_with fail
      refine HCV.out.mono ?_
      rintro e w6 ⟨A6,c6,rfl,hRA,hb6⟩
      have hb6' : Below wr.heap.size wr w6:=hbq.trans (hb6.mono hbq.size)
      have hrd:=Be.four_rd hRA hbq.size
      have hown:=(HV.out.below hb6').own
      rw [HL.out] at hown
      have hs6 : W.heap.size <= w6.heap.size:=Nat.le_trans HV.out.bel.size hb6'.size
      go_wp2_with (at_builtin;refine Be.append_value rfl (.tmp 44) (.tmp 47) rfl W.heap.size _ (L0 + k) xs' _ _ _ _ (Be.Rd.one _ _ hrd) rfl hown rfl (by omega) hs6 ?_;intro v2 w7 hown2 hgr2 hob2)
      have hsn:=HV.out.snoc hb6' hrd (by rw [HL.out];exact hown2) hgr2 hob2
      rw [List.append_assoc] at hsn
      rw [<- HTK.out] at hsn
      exact ⟨⟨k + 1,_,by go_num,by omega,hsn⟩,by simp [intOf];omega⟩
     ·obtain rfl : k = n:=by omega
      have htk : (l.take k).map bareP = r.ps:=by rw [List.take_of_length_le (by have:=hPn.out;omega)];exact HLB.out
      rw [htk] at hV HL
      have hts : Be.tN r.kd :: (r.nums.map Be.tN ++ tbT r.tb) ++ r.ps.map ptT = recL r:=by unfold recL;simp
      rw [hts] at hV HL
      obtain ⟨A8,c8',rfl,_,_⟩:=hV.shape
      have hlst:=Be.lst_any hV (by rw [HL.out];omega)
      have he:=HL.out
      unfold Be.LstPost at hlst
      rw [he] at hlst
      rw [he]
      have HLS:=Lib.hid hlst
      clear hlst hts htk he hV HL
      go_wp2_with fail
      refine HLS.out.mono ?_
      rintro e w8 ⟨A9,c9',rfl,hRA,hb8⟩
      obtain ⟨a1,a2,a3,a4,a5⟩:=recT_facts HOK.out
      have hbw8 : Below w.heap.size w w8:=HX.out.bel.trans (hb8.mono (Nat.le_of_lt HX.out.lt))
      have HPU:=Lib.hid (Be.lst_put hRA a3 (recT_gd HOK.out) ((Be.Tabs.on HT.out hbw8).up hbw8.size))
      go_wp2_with fail
      refine HPU.out.mono ?_
      rintro e w9 ⟨rfl,hb9⟩
      go_wp2_with fail
      go_ret
      exact ⟨rfl,hbw8.trans (hb9.mono hbw8.size)⟩
end
section
open Go Go.RowKit
def DoPost (F : Nat -> Prop) (g t : Nat) (k' : KS) (w : World) (e : Ending) (w' : World) : Prop:=e = .returned (.tuple #[]) /\ ∃ F' Ft' p',KeptR w' F' Ft' g t p' k' /\ Turn F w F' w'
theorem Turn.more {F F' F'' : Nat -> Prop} {w w' : World} (h : Turn F w F' w') (k : ∀ b,F'' b -> F' b \/ w.heap.size <= b) : Turn F w F'' w':=⟨h.os,h.tape,h.output,h.size,h.block,fun b hb=>(k b hb).elim (h.foot b) .inr⟩
section
variable {w w' : World} {F Ft : Nat -> Prop} {g t p : Nat} {k : KS}
theorem knote_any (h : KeptR w F Ft g t p k) (hv0 : 0 <= k.vr) (hv1 : k.vr <= 1000000000) (r : Rec) (sl : Value) (was : Bool) :
  Calls Tryz.prog 206 #[.pointer (some ⟨g,0,none⟩),.agg #[.int .i64 r.kd,.int .i64 r.st,.int .i64 r.ep,.int .i64 r.mv,.int .i64 r.vr,.int .i64 r.dm,.int .i64 r.cl,.int .i64 r.sq,.string r.tb,sl],.bool was] w
   (fun e w'=>e = .returned (.tuple #[]) /\ KeptR w' F Ft g t p (noteK k r.cl r.sq was) /\ Turn F w F w'):=by
 obtain ⟨W,hW⟩ : ∃ W,w.alloc (.cells #[.int .i64 r.kd,.int .i64 r.st,.int .i64 r.ep,.int .i64 r.mv,.int .i64 r.vr,.int .i64 r.dm,.int .i64 r.cl,.int .i64 r.sq,.string r.tb,sl] 107) = W:=⟨_,rfl⟩
 have hbW : Below w.heap.size w W:=by rw [<- hW];exact (Below.refl _ _).alloc (Nat.le_refl _) _
 have hX : Row W w.heap.size 107 (rcl r sl):=by rw [<- hW];exact Row.new w 107 (rcl r sl)
 have h1:=h.below hbW
 have c6:=h1.c6
 have d6 : W.cell? ⟨w.heap.size,6,none⟩ = some (.int .i64 r.cl):=hX.cell rfl
 have d7 : W.cell? ⟨w.heap.size,7,none⟩ = some (.int .i64 r.sq):=hX.cell rfl
 have hgl:=h1.gl
 have hxl:=hX.lt
 have H1:=Lib.hid h1
 have HP:=Lib.hid (show ∀ q,Calls Tryz.prog 222 #[.pointer (some ⟨p,0,none⟩),.int .i64 r.cl,.int .i64 r.sq,.agg #[.int .i64 0,.bool was,.slice none 0 0]] (W.drewN q) (Be.PutPost p (Be.putM k.q r.cl r.sq 0 was) (W.drewN q)) from fun q=>Be.put_any (h1.drewN q).tab r.cl r.sq 0 was (.slice none 0 0))
 have HB:=Lib.hid hbW
 have HWl:=Lib.hid hW
 have hpX : p ≠ w.heap.size:=by have:=h.lt p h.fp;omega
 have HR6:=Lib.hid (hX.cell (j:=6) (u:=.int .i64 r.cl) rfl)
 have HR7:=Lib.hid (hX.cell (j:=7) (u:=.int .i64 r.sq) rfl)
 clear h1 hX hbW hW
 go_enter Tryz.func206,Tryz.ntmps206
 go_wp2_with fail
 rw [HWl.out]
 go_region_held3 (fun w'=>w'.cell? ⟨g,6,none⟩ = some (.pointer (some ⟨p,0,none⟩)) /\ w'.cell? ⟨w.heap.size,6,none⟩ = some (.int .i64 r.cl) /\ w'.cell? ⟨w.heap.size,7,none⟩ = some (.int .i64 r.sq))
  (first | exact ⟨c6,d6,d7⟩ | exact ⟨c6',d6',d7'⟩ | go_keep)
  ((go_at_call 222;refine (HP.out 1).mono ?_;rintro e w2 ⟨rfl,ht2,hg2⟩;obtain ⟨h2,hT2⟩:=(H1.out.drewN 1).atTab ht2 hg2;have c6':=h2.c6;have d6' : w2.cell? ⟨w.heap.size,6,none⟩ = some (.int .i64 r.cl):=(World.cell?_of_block (a:=⟨w.heap.size,6,none⟩) (hg2.block _ hxl (fun e=>hpX (by simpa using e.symm)))).trans HR6.out;have d7' : w2.cell? ⟨w.heap.size,7,none⟩ = some (.int .i64 r.sq):=(World.cell?_of_block (a:=⟨w.heap.size,7,none⟩) (hg2.block _ hxl (fun e=>hpX (by simpa using e.symm)))).trans HR7.out))
 have c4 : w2.cell? ⟨g,4,none⟩ = some (.int .i64 k.vr):=h2.c4
 have z4 : w2.frozen? ⟨g,4,none⟩ = false:=h2.z 4
 have gl2:=h2.gl
 have H2:=Lib.hid h2
 have HT2:=Lib.hid hT2
 clear h2 hT2 ht2 hg2
 go_wp2_with fail
 go_end0
 obtain ⟨h3,hT3⟩:=H2.out.atRow (k':=noteK k r.cl r.sq was) (turn_one g w2 4 (.int .i64 (k.vr + 1))) (H2.out.row.set 4 (.int .i64 (k.vr + 1))) rfl rfl rfl
 exact ⟨rfl,h3,(((Turn.below F HB.out).trans (Turn.drewN F W 1)).trans HT2.out).trans hT3⟩
theorem kstand_any (h : KeptR w F Ft g t p k) (r : Rec) (sl : Value) :
  Calls Tryz.prog 175 #[.pointer (some ⟨g,0,none⟩),.agg #[.int .i64 r.kd,.int .i64 r.st,.int .i64 r.ep,.int .i64 r.mv,.int .i64 r.vr,.int .i64 r.dm,.int .i64 r.cl,.int .i64 r.sq,.string r.tb,sl]] w
   (fun e w'=>e = .returned (.tuple #[]) /\ KeptR w' F Ft g t p (standK k r.st r.ep r.mv) /\ Turn F w F w'):=by
 obtain ⟨W,hW⟩ : ∃ W,w.alloc (.cells #[.int .i64 r.kd,.int .i64 r.st,.int .i64 r.ep,.int .i64 r.mv,.int .i64 r.vr,.int .i64 r.dm,.int .i64 r.cl,.int .i64 r.sq,.string r.tb,sl] 107) = W:=⟨_,rfl⟩
 have hbW : Below w.heap.size w W:=by rw [<- hW];exact (Below.refl _ _).alloc (Nat.le_refl _) _
 have hX : Row W w.heap.size 107 (rcl r sl):=by rw [<- hW];exact Row.new w 107 (rcl r sl)
 have h1:=h.below hbW
 have d1 : W.cell? ⟨w.heap.size,1,none⟩ = some (.int .i64 r.st):=hX.cell rfl
 have d2 : W.cell? ⟨w.heap.size,2,none⟩ = some (.int .i64 r.ep):=hX.cell rfl
 have d3 : W.cell? ⟨w.heap.size,3,none⟩ = some (.int .i64 r.mv):=hX.cell rfl
 have c1:=h1.c1
 have c2:=h1.c2
 have c3:=h1.c3
 have z1:=h1.z 1
 have z2:=h1.z 2
 have z3:=h1.z 3
 have hgl:=h1.gl
 have hxl:=hX.lt
 have hgX : g ≠ w.heap.size:=by have:=h.gl;omega
 have H1:=Lib.hid h1
 have HB:=Lib.hid hbW
 have HWl:=Lib.hid hW
 clear h1 hX hbW hW
 go_enter Tryz.func175,Tryz.ntmps175
 go_wp2_with fail
 rw [HWl.out]
 go_region
 all_goals go_wp2_with fail
 go_end0
 obtain ⟨h3,hT3⟩:=H1.out.atRow (k':=standK k r.st r.ep r.mv) (w':=(((W.setCell ⟨g,1,none⟩ (.int .i64 r.st)).setCell ⟨g,2,none⟩ (.int .i64 r.ep)).setCell ⟨g,3,none⟩ (.int .i64 r.mv)))
  ((turn_one g W 1 _).trans ((turn_one g _ 2 _).trans (turn_one g _ 3 _))) (((H1.out.row.set 1 (.int .i64 r.st)).set 2 (.int .i64 r.ep)).set 3 (.int .i64 r.mv)) rfl rfl rfl
 exact ⟨rfl,h3.drewN 1,((Turn.below F HB.out).trans hT3).trans (Turn.drewN F _ 1)⟩
theorem rec_cells {W : World} {X : Nat} {r : Rec} {sl : Value} (h : Row W X 107 (rcl r sl)) : W.cell? ⟨X,0,none⟩ = some (.int .i64 r.kd) /\ W.cell? ⟨X,1,none⟩ = some (.int .i64 r.st) /\ W.cell? ⟨X,2,none⟩ = some (.int .i64 r.ep) /\ W.cell? ⟨X,3,none⟩ = some (.int .i64 r.mv) /\ W.cell? ⟨X,4,none⟩ = some (.int .i64 r.vr) /\ W.cell? ⟨X,5,none⟩ = some (.int .i64 r.dm) /\ W.cell? ⟨X,6,none⟩ = some (.int .i64 r.cl) /\ W.cell? ⟨X,7,none⟩ = some (.int .i64 r.sq) /\ W.cell? ⟨X,8,none⟩ = some (.string r.tb) /\ W.cell? ⟨X,9,none⟩ = some sl :=
 ⟨h.cell rfl,h.cell rfl,h.cell rfl,h.cell rfl,h.cell rfl,h.cell rfl,h.cell rfl,h.cell rfl,h.cell rfl,h.cell rfl⟩
theorem kwhole_any (h : KeptR w F Ft g t p k) (r : Rec) (sl : Value) (q : List Be.E) (hq : Be.ofM r.tb.data.toList = some q) (hs : r.tb.size <= 1000000000) :
  Calls Tryz.prog 173 #[.pointer (some ⟨g,0,none⟩),.agg #[.int .i64 r.kd,.int .i64 r.st,.int .i64 r.ep,.int .i64 r.mv,.int .i64 r.vr,.int .i64 r.dm,.int .i64 r.cl,.int .i64 r.sq,.string r.tb,sl]] w
   (DoPost F g t { k with st:=r.st,ep:=r.ep,mv:=r.mv,vr:=r.vr,q:=q } w):=by
 obtain ⟨W,hW⟩ : ∃ W,w.alloc (.cells #[.int .i64 r.kd,.int .i64 r.st,.int .i64 r.ep,.int .i64 r.mv,.int .i64 r.vr,.int .i64 r.dm,.int .i64 r.cl,.int .i64 r.sq,.string r.tb,sl] 107) = W:=⟨_,rfl⟩
 have hbW : Below w.heap.size w W:=by rw [<- hW];exact (Below.refl _ _).alloc (Nat.le_refl _) _
 have hX : Row W w.heap.size 107 (rcl r sl):=by rw [<- hW];exact Row.new w 107 (rcl r sl)
 have d8 : W.cell? ⟨w.heap.size,8,none⟩ = some (.string r.tb):=hX.cell rfl
 have hxl:=hX.lt
 have H0:=Lib.hid h
 have HX:=Lib.hid hX
 have HB:=Lib.hid hbW
 have HWl:=Lib.hid hW
 have ho:=Be.of_any r.tb hs W
 rw [hq] at ho
 have HO:=Lib.hid ho
 have hgX : g ≠ w.heap.size:=by have:=h.gl;omega
 clear h hX hbW hW ho hq
 go_enter Tryz.func173,Tryz.ntmps173
 go_wp2_with fail
 rw [HWl.out]
 go_wp2_with fail
 refine HO.out.mono ?_
 rintro e w2 ⟨p',rfl,ht2,hp2,hb2⟩
 have hbX : w2.heap[w.heap.size]? = W.heap[w.heap.size]?:=hb2.block _ hxl
 have HX2:=Lib.hid (HX.out.keep hbX)
 obtain ⟨e0,e1,e2,e3,e4,e5,e6,e7,e8,e9⟩:=rec_cells HX2.out
 have hxl2 : w.heap.size < w2.heap.size:=HX2.out.lt
 have H2:=Lib.hid ((H0.out.below HB.out).below hb2)
 have HS:=Lib.hid (kstand_any H2.out r sl)
 have HT2:=Lib.hid ht2
 have HB2:=Lib.hid hb2
 clear ht2 hb2 hbX
 go_wp2_with fail
 refine HS.out.mono ?_
 rintro e w3 ⟨rfl,h3,hT3⟩
 have hXF : ¬ F w.heap.size:=fun hF=>by have:=H0.out.lt _ hF;omega
 have hpF : ¬ F p':=fun hF=>by have:=H0.out.lt _ hF;have:=HB.out.size;omega
 have d4 : w3.cell? ⟨w.heap.size,4,none⟩ = some (.int .i64 r.vr):=(World.cell?_of_block (a:=⟨w.heap.size,4,none⟩) (hT3.block _ hxl2 hXF)).trans e4
 have c4:=h3.c4
 have c6:=h3.c6
 have z4:=h3.z 4
 have z6:=h3.z 6
 have gl3:=h3.gl
 have hxl3 : w.heap.size < w3.heap.size:=Nat.lt_of_lt_of_le hxl2 hT3.size
 have HT3:=Lib.hid (HT2.out.keep (hT3.block p' HT2.out.row.lt hpF))
 have H3:=Lib.hid h3
 have HU3:=Lib.hid hT3
 clear h3 hT3 e0 e1 e2 e3 e4 e5 e6 e7 e8 e9
 go_wp2_with fail
 go_end0
 have hrow:=(H3.out.row.set 4 (.int .i64 r.vr)).set 6 (.pointer (some ⟨p',0,none⟩))
 have hTr:=(turn_one g w3 4 (.int .i64 r.vr)).trans (turn_one g _ 6 (.pointer (some ⟨p',0,none⟩)))
 have hk:=H3.out.newTab (k':={ k with st:=r.st,ep:=r.ep,mv:=r.mv,vr:=r.vr,q:=q }) (p':=p') hrow hTr HT3.out hpF rfl rfl
 refine ⟨rfl,_,_,p',hk,?_⟩
 have hT4 : Turn F w3 F _:=⟨hTr.os,hTr.tape,hTr.output,hTr.size,fun b hb hF=>hTr.block b hb (fun e=>hF (e ▸ H3.out.fg)),fun b hb=>.inl hb⟩
 exact ((((Turn.below F HB.out).trans (Turn.below F HB2.out)).trans HU3.out).trans hT4).more fun b hb=>hb.elim .inl (fun e=>.inr (by rw [e];exact Nat.le_trans HB.out.size hp2))
end
end
end Go.Proofs.YtegjjhjgfkcbhaaGreatDoor
