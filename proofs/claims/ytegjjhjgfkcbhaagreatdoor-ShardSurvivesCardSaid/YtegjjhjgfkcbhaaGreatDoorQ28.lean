/- WTake. Conditions: as each part says. -/
import Derived.Test.YtegjjhjgfkcbhaaGreatDoorQ27
import Derived.StillTailTactics
import Derived.Deep.RegionHeld3
import Derived.Deep.LoopGhost
set_option linter.unusedVariables false
set_option linter.unusedSimpArgs false
set_option maxRecDepth 100000
set_option maxHeartbeats 16000000
namespace Go.Proofs.YtegjjhjgfkcbhaaGreatDoor
section
open Go Go.RowKit Go.Maps
section
variable {w w' : World} {bb base k : Nat} {lim : Int} {v : Value} {H : List Hit}
structure TestW (w : World) (hb bp bb base k : Nat) (lim : Int) (v : Value) (h : Hit) (H : List Hit) : Prop where
 hit : Row w hb 91 (hcell h)
 ptr : Row w bp 223 [.pointer (some ⟨bb,0,none⟩)]
 near : NearW w bb base k lim v H
theorem TestW.below {hb bp : Nat} {h : Hit} (t : TestW w hb bp bb base k lim v h H) (b : Below w.heap.size w w') : TestW w' hb bp bb base k lim v h H :=
 ⟨t.hit.keep (b.block _ t.hit.lt),t.ptr.keep (b.block _ t.ptr.lt),t.near.below b⟩
theorem tclo_any {hb bp : Nat} {h : Hit} (t : TestW w hb bp bb base k lim v h H) {i : Nat} (hi : i < H.length) (hn : H.length <= 1000) :
  Calls Tryz.prog 148 #[.int .i64 (i : Int),.pointer (some ⟨hb,0,none⟩),.pointer (some ⟨bp,0,none⟩)] w (Gives (.bool (hlt h (H.getD i (0,0)))) w):=by
 obtain ⟨A,c,rfl,hnc,hc⟩:=own_shape t.near.own
 have hR:=Reads.of_own t.near.own
 obtain ⟨ad,rfl,hbk,hkl,x0,x1⟩:=hR.hit_at (k:=i) hi
 have d2:=t.near.d2
 have hbl:=t.near.lt
 have y0:=t.hit.cell (j:=0) rfl
 have y1:=t.hit.cell (j:=1) rfl
 have yl:=t.hit.lt
 have z0:=t.ptr.cell (j:=0) rfl
 have zl:=t.ptr.lt
 have hl:=less_any h (H.getD i (0,0)) w.drew
 unfold hitV at hl
 have hiz : (i : Int) < (H.length : Int):=by omega
 have h0 : (0 : Int) <= (i : Int):=by omega
 clear t hR hnc
 generalize H.getD i (0,0) = X at *
 generalize H.length = n at *
 clear hkl
 go_enter Tryz.func148,Tryz.ntmps148
 go_wp2_with fail
 go_still_tail 8,(by kernel_rfl)
 change wpList _ _ _ _ _ w.drew
 go_wp2_with (go_at_call 149;refine hl.mono ?_;rintro e w2 ⟨rfl,hb2⟩)
 go_ret
 exact ⟨rfl,(below_drewN (Below.refl _ w) 1).trans hb2⟩
theorem ord_mono {h : Hit} {H : List Hit} (ho : InOrd H) {a b : Nat} (hab : a <= b) (hb : b < H.length) (ha : hlt h (H.getD a (0,0)) = true) : hlt h (H.getD b (0,0)) = true:=by
 rcases Nat.eq_or_lt_of_le hab with rfl | hab
 ·exact ha
 ·have h1:=List.pairwise_iff_getElem.1 ho a b (by omega) hb hab
  rw [List.getD_eq_getElem?_getD,List.getElem?_eq_getElem (show a < H.length by omega),Option.getD_some] at ha
  rw [List.getD_eq_getElem?_getD,List.getElem?_eq_getElem hb,Option.getD_some]
  cases hc : hlt h H[b] with
  | true=>rfl
  | false =>
   exfalso
   by_cases hd : hlt H[b] h = true
   ·rw [hlt_trans hd ha] at h1
    cases h1
   ·have e:=hlt_total hc (by simpa using hd)
    rw [<- e,ha] at h1
    cases h1
def SrchPost (h : Hit) (H : List Hit) (w : World) (e : Ending) (w' : World) : Prop :=
 ∃ p : Nat,e = .returned (.int .i64 (p : Int)) /\ p <= H.length /\ (∀ t,t < p -> hlt h (H.getD t (0,0)) = false) /\ (p < H.length -> hlt h (H.getD p (0,0)) = true) /\ Below w.heap.size w w'
theorem srch_any {hb bp : Nat} {h : Hit} (t : TestW w hb bp bb base k lim v h H) (ho : InOrd H) (hn : H.length <= 1000) :
  Calls Tryz.prog 147 #[.int .i64 (H.length : Int),.func (.func 148) #[] #[.pointer (some ⟨hb,0,none⟩),.pointer (some ⟨bp,0,none⟩)]] w (SrchPost h H w):=by
 have HT:=Lib.hid t
 have HO:=Lib.hid (fun a b=>ord_mono (h:=h) (a:=a) (b:=b) ho)
 clear t ho
 go_enter Tryz.func147,Tryz.ntmps147
 go_wp2_with fail
 go_loopg [5,6] H.length (fun kx s5 s6 wr=>∃ (lo hi : Nat),s5 = .int .i64 lo /\ s6 = .int .i64 hi /\ lo <= hi /\ hi <= H.length /\ hi - lo <= kx /\ Below w.heap.size w wr /\
  Hid ((∀ t,t < lo -> hlt h (H.getD t (0,0)) = false) /\ (∀ t,hi <= t -> t < H.length -> hlt h (H.getD t (0,0)) = true)))
 case atStart=>exact ⟨0,H.length,rfl,rfl,Nat.zero_le _,Nat.le_refl _,by omega,Below.refl _ _,Lib.hid ⟨fun t ht=>absurd ht (Nat.not_lt_zero _),fun t h1 h2=>by omega⟩⟩
 case round =>
  obtain ⟨lo,hi,rfl,rfl,hlh,hin,hg,hb,I⟩:=hrel
  by_cases hlt' : lo < hi
  ·have hc:=tclo_any (HT.out.below hb) (i:=(lo + hi) / 2) (by omega) hn
   rw [show (((lo + hi) / 2 : Nat) : Int) = ((lo : Int) + (hi : Int)) / 2 by omega] at hc
   have HB:=Lib.hid hb
   clear hb
   cases hp : hlt h (H.getD ((lo + hi) / 2) (0,0)) <;> rw [hp] at hc
   ·have HP:=Lib.hid hp
    clear hp
    go_wp2_with fail
    go_at_call 148
    refine hc.mono ?_
    rintro e w2 ⟨rfl,hb2⟩
    have HB2:=Lib.hid (HB.out.trans (hb2.mono HB.out.size))
    clear hb2
    go_wp2_with fail
    go_roundg (hi - ((lo + hi) / 2 + 1))
    case measure=>omega
    case rel =>
     exact ⟨(lo + hi) / 2 + 1,hi,by rw [show ((lo : Int) + (hi : Int)) / 2 + 1 = (((lo + hi) / 2 + 1 : Nat) : Int) by omega],rfl,by omega,hin,Nat.le_refl _,HB2.out,Lib.hid ⟨fun t ht=>by
      cases h' : hlt h (H.getD t (0,0)) with
      | false=>rfl
      | true =>
       have:=HO.out t ((lo + hi) / 2) (by omega) (by omega) h'
       rw [HP.out] at this
       exact Bool.noConfusion this,I.out.2⟩⟩
   ·have HP:=Lib.hid hp
    clear hp
    go_wp2_with fail
    go_at_call 148
    refine hc.mono ?_
    rintro e w2 ⟨rfl,hb2⟩
    have HB2:=Lib.hid (HB.out.trans (hb2.mono HB.out.size))
    clear hb2
    go_wp2_with fail
    go_roundg ((lo + hi) / 2 - lo)
    case measure=>omega
    case rel =>
     exact ⟨lo,(lo + hi) / 2,rfl,by rw [show ((lo : Int) + (hi : Int)) / 2 = (((lo + hi) / 2 : Nat) : Int) by omega],by omega,by omega,Nat.le_refl _,HB2.out,Lib.hid ⟨I.out.1,fun t ht htn=>HO.out ((lo + hi) / 2) t ht htn HP.out⟩⟩
  ·obtain rfl : hi = lo:=by omega
   have HF:=Lib.hid (show SrchPost h H w (.returned (.int .i64 (hi : Int))) wr from ⟨hi,rfl,hin,I.out.1,fun hlt2=>I.out.2 hi (Nat.le_refl _) hlt2,hb⟩)
   clear I hb
   go_wp2_with fail
   go_ret
   exact HF.out
def Own2 (bb : Nat) (v : Value) (b : Nat) : Prop:=b = bb \/ v.ownBlock = some b
def TakePost (bb base k : Nat) (lim : Int) (v : Value) (H : List Hit) (h : Hit) (w : World) (e : Ending) (w' : World) : Prop :=
 e = .returned (.tuple #[]) /\ ∃ v',NearW w' bb base k lim v' (if reachOf k lim H < h.2 then H else (insH h H).take k) /\ Turn (Own2 bb v) w (Own2 bb v') w'
theorem take_no (t : NearW w bb base k lim v H) (hk1 : 1 <= k) (hk : k <= 64) (hH : H.length <= k) {h : Hit} (hr : reachOf k lim H < h.2) :
  Calls Tryz.prog 105 #[.pointer (some ⟨bb,0,none⟩),hitV h] w (TakePost bb base k lim v H h w):=by
 have hb0 : Below w.heap.size w ((w.alloc (.cells #[.pointer (some ⟨bb,0,none⟩)] 223)).alloc (.cells #[.int .i64 h.1,.int .i64 h.2] 91)):=((Below.refl _ w).alloc (Nat.le_refl _) _).alloc (by simp) _
 have hp0 : Row ((w.alloc (.cells #[.pointer (some ⟨bb,0,none⟩)] 223)).alloc (.cells #[.int .i64 h.1,.int .i64 h.2] 91)) w.heap.size 223 [.pointer (some ⟨bb,0,none⟩)]:=(Row.new w 223 [.pointer (some ⟨bb,0,none⟩)]).keep (heap_alloc_lt _ _ (by simp))
 have hh0 : Row ((w.alloc (.cells #[.pointer (some ⟨bb,0,none⟩)] 223)).alloc (.cells #[.int .i64 h.1,.int .i64 h.2] 91)) (w.heap.size + 1) 91 (hcell h):=by
  have:=Row.new (w.alloc (.cells #[.pointer (some ⟨bb,0,none⟩)] 223)) 91 (hcell h)
  have e : (w.alloc (.cells #[.pointer (some ⟨bb,0,none⟩)] 223)).heap.size = w.heap.size + 1:=by simp
  rw [e] at this
  exact this
 unfold hitV
 generalize hW : (w.alloc (.cells #[.pointer (some ⟨bb,0,none⟩)] 223)).alloc (.cells #[.int .i64 h.1,.int .i64 h.2] 91) = W at *
 have HW:=Lib.hid hW
 clear hW
 have t0:=t.below hb0
 have hre:=fun q=>vreach_any (t0.drewN q) hk1 hk hH
 have z0:=hp0.cell (j:=0) rfl
 have zl:=hp0.lt
 have y1:=hh0.cell (j:=1) rfl
 have yl:=hh0.lt
 have HF:=Lib.hid (show ∀ q,TakePost bb base k lim v H h w (.returned (.tuple #[])) (W.drewN q) from fun q=>⟨rfl,v,by rw [if_pos hr];exact t0.drewN q,(Turn.below (Own2 bb v) hb0).trans (Turn.drewN _ W q)⟩)
 have hb : decide (reachOf k lim H < h.2) = true:=decide_eq_true hr
 clear hr t0 hb0 hp0 hh0 t
 go_enter Tryz.func105,Tryz.ntmps105
 go_wp2_with fail
 rw [HW.out]
 generalize reachOf k lim H = R at *
 go_quiet ((go_at_call 108;refine Calls.quiet_of (hre _)))
 go_wp2_with fail
 refine bodyPost_ret (results_none rfl _ _ _) rfl ?_
 exact HF.out nq
end
end
end Go.Proofs.YtegjjhjgfkcbhaaGreatDoor
