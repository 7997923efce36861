/- All. Conditions: as each part says. -/
import Derived.Test.YtegjjhjgfkcbhaaGreatDoorQ10
import Derived.Test.YtegjjhjgfkcbhaaGreatDoorQ16
set_option linter.unusedVariables false
set_option linter.unusedSimpArgs false
set_option maxRecDepth 100000
set_option maxHeartbeats 16000000
namespace Go.Proofs.YtegjjhjgfkcbhaaGreatDoor
section
open Go Go.RowKit
def CloPost (l : List UInt8) (c base n : Nat) (ls : List (List UInt8)) (w : World) (e : Ending) (w' : World) : Prop :=
 ∃ v',e = .returned (.tuple #[]) /\ Box w' c 108 v' /\ w'.ownsRow base 9 1 v' (n + 1) (strL (ls ++ [l])) /\ Below c w w' /\ base <= w'.heap.size
theorem clo_any (l : List UInt8) (c base : Nat) (v : Value) (n : Nat) (ls : List (List UInt8)) (w : World) (hbx : Box w c 108 v) (hown : w.ownsRow base 9 1 v n (strL ls)) (hc : c < base) (hbase : base <= w.heap.size) (hn : n <= 500000) :
  Calls Tryz.prog 143 #[.string ⟨l.toArray⟩,.pointer (some ⟨c,0,none⟩)] w (CloPost l c base n ls w):=by
 have hcell:=hbx.cell
 have hcs:=hbx.lt
 have HBX:=Lib.hid hbx
 generalize hL : (⟨l.toArray⟩ : ByteArray) = L at *
 have HL:=Lib.hid hL
 clear hbx hL
 go_enter Tryz.func143,Tryz.ntmps143
 go_wp2_with (at_builtin;refine append_str rfl (.tmp 3) (.tmp 5) rfl base v n (strL ls) L rfl hown w.heap.size (by simp) rfl (by omega) hbase ?_;intro v1 w1 hown1 hg1;obtain ⟨A1,c1,rfl,hq1,hq2⟩:=own_shape hown1;have hne : some c ≠ v.ownBlock:=(fun h=>by have:=(hown.lt c h.symm).1;omega);have hbx1:=HBX.out.grown hg1 hne;have hcell1:=hbx1.cell;have hfz1:=hbx1.frozen;have hlt1:=hbx1.lt)
 go_end0
 refine ⟨_,rfl,hbx1.set _,?_,?_,by have:=hg1.size;simp;omega⟩
 ·have:=own_setCell hown1 hc (.slice A1 (n + 1) c1)
  rw [<- HL.out,strL_snoc] at this
  exact this
 ·have hb1 : Below c w w1:=⟨hg1.os,hg1.tape,hg1.output,by have:=hg1.size;omega,fun b hb=>hg1.block b (by omega) (fun h=>by have:=(hown.lt b h.symm).1;omega)⟩
  exact below_setCell hb1 (Nat.le_refl _) _
theorem below_far {c : Nat} {w w1 w2 : World} (h : Below c w w1) (k : Below w1.heap.size w1 w2) (hc : c <= w1.heap.size) : Below c w w2:=h.trans (k.mono hc)
def EachPost (l : List UInt8) (c base : Nat) (w : World) (e : Ending) (w' : World) : Prop :=
 e = .returned (.int .i64 ((alls l).2 : Int)) /\ ∃ v' n,Box w' c 108 v' /\ w'.ownsRow base 9 1 v' n (strL (alls l).1) /\ Below c w w' /\ base <= w'.heap.size
theorem each_any (s : ByteArray) (hs : s.size <= 300000) (c base : Nat) (w : World) (hT : TabW w) (hc0 : 0 < c) (hbx : Box w c 108 (.slice none 0 0)) (hc : c < base) (hbase : base <= w.heap.size) :
  Calls Tryz.prog 142 #[.string s,.func (.func 143) #[] #[.pointer (some ⟨c,0,none⟩)]] w (EachPost s.data.toList c base w):=by
 have HT:=Lib.hid hT
 have HBX:=Lib.hid hbx
 clear hT hbx
 go_enter Tryz.func142,Tryz.ntmps142
 go_wp2_with fail
 go_loopw [5] (fun i wr=>∃ (k f n : Nat) (ls : List (List UInt8)) (v : Value),i = .int .i64 (k : Int) /\ k <= s.size /\ s.size - k <= f /\ n <= k /\ Hid (alls s.data.toList = (ls ++ (allF s.data.toList (f + 1) k).1,(allF s.data.toList (f + 1) k).2)) /\ Box wr c 108 v /\ wr.ownsRow base 9 1 v n (strL ls) /\ Below c w wr /\ base <= wr.heap.size) (fun i _=>s.size - (intOf i).toNat)
 case atStart=>exact ⟨0,s.size,0,[],.slice none 0 0,rfl,Nat.zero_le _,by omega,by omega,Lib.hid (by unfold alls;rw [size_list];rfl),HBX.out,World.ownsRow_nil ..,Below.refl _ _,hbase⟩
 case round =>
  obtain ⟨k,f,n,ls,v,rfl,hk,hf,hnk,HA,hbx,hown,hb,hbs⟩:=hrel
  have hks : (k : Int) <= (s.size : Int):=by omega
  have hk0 : (0 : Int) <= (k : Int):=by omega
  have htk:=take_any (s.extract k s.size) (by rw [ByteArray.size_extract];omega) wr (HT.out.below hb hc0)
  rw [Lib.extract_to_end] at htk
  by_cases he : (tkL (s.data.toList.drop k)).2.2 = 0
  ·obtain ⟨t,m,hr⟩ : ∃ t m,tkL (s.data.toList.drop k) = (t,m,0):=⟨_,_,by rw [<- he]⟩
   have hp:=tkL_pos hr
   rw [List.length_drop,size_list] at hp
   have hnext:=HA.out
   rw [allF_ok hr] at hnext
   rw [hr] at htk
   unfold tkV at htk
   have HTK:=Lib.hid htk
   have HN:=Lib.hid hnext
   clear htk hnext he hr HA
   go_wp2_with fail
   refine HTK.out.mono ?_
   rintro e w1 ⟨rfl,hb1⟩
   have hbx1:=hbx.below hb1 hbx.lt
   have hown1:=keep_none hown hb1
   have hb01:=below_far hb hb1 (by have:=hbx.lt;omega)
   have hbs1 : base <= w1.heap.size:=by have:=hb1.size;omega
   go_wp2_with fail
   go_at_call 143
   refine (clo_any t c base v n ls w1 hbx1 hown1 hc hbs1 (by omega)).mono ?_
   rintro e w2 ⟨v2,rfl,hbx2,hown2,hb2,hbs2⟩
   go_wp2_with fail
   go_roundw
   case rel=>exact ⟨k + m,f - 1,n + 1,ls ++ [t],v2,by go_num,by omega,by omega,by omega,Lib.hid (by
    rw [HN.out,List.append_assoc]
    obtain ⟨f2,rfl⟩ : ∃ f2,f = f2 + 1:=⟨f - 1,by omega⟩
    rfl),hbx2,hown2,hb01.trans hb2,hbs2⟩
   case measure=>simp [intOf];omega
  ·have hend:=HA.out
   rw [allF_no he,List.append_nil] at hend
   generalize tkL (s.data.toList.drop k) = R at *
   obtain ⟨t,m,e0⟩:=R
   unfold tkV at htk
   have HTK:=Lib.hid htk
   have HN:=Lib.hid hend
   have hne : ((e0 : Int) != 0) = true:=by rw [bne_iff_ne];simp only at he;omega
   clear htk hend he HA
   go_wp2_with fail
   refine HTK.out.mono ?_
   rintro e w1 ⟨rfl,hb1⟩
   have hbx1:=hbx.below hb1 hbx.lt
   have hown1:=keep_none hown hb1
   have hb01:=below_far hb hb1 (by have:=hbx.lt;omega)
   have hbs1 : base <= w1.heap.size:=by have:=hb1.size;omega
   go_wp2_with fail
   go_ret
   refine ⟨by rw [HN.out];rfl,v,n,hbx1,by rw [HN.out];exact hown1,hb01,hbs1⟩
def AllPost (r : List (List UInt8) × Nat) (w : World) (e : Ending) (w' : World) : Prop :=
 ∃ v,e = .returned (.tuple #[v,.int .i64 (r.2 : Int)]) /\ w'.ownsRow (w.heap.size + 1) 9 1 v r.1.length (strL r.1) /\ Below w.heap.size w w'
theorem all_any (s : ByteArray) (hs : s.size <= 300000) (w : World) (hT : TabW w) : Calls Tryz.prog 93 #[.string s] w (AllPost (alls s.data.toList) w):=by
 have hbx:=Box.new w 108 (.slice none 0 0)
 have hb0 : Below w.heap.size w (w.alloc (.cells #[.slice none 0 0] 108)):=(Below.refl _ w).alloc (Nat.le_refl _) _
 have hsz : (w.alloc (.cells #[.slice none 0 0] 108)).heap.size = w.heap.size + 1:=by simp
 have hT0:=hT.below hb0 hT.size
 have hpos:=hT.size
 go_enter Tryz.func93,Tryz.ntmps93
 go_wp2_with fail
 generalize w.alloc (.cells #[.slice none 0 0] 108) = w0 at *
 refine (each_any s hs w.heap.size (w.heap.size + 1) w0 hT0 hpos hbx (by omega) (by omega)).mono ?_
 rintro e w1 ⟨rfl,v,n,hbx1,hown,hb1,hbs1⟩
 have hnl : n = (alls s.data.toList).1.length:=by have:=hown.1;rw [strL_len] at this;omega
 subst hnl
 obtain ⟨A,c,rfl,hq1,hq2⟩:=own_shape hown
 have hc1:=hbx1.cell
 have hf1:=hbx1.frozen
 have hc2:=(hbx1.set (.slice A (alls s.data.toList).1.length c)).cell
 have hr1:=own_setCell hown (c:=w.heap.size) (by omega) (.slice A (alls s.data.toList).1.length c)
 have hb2:=below_setCell (hb0.trans hb1) (p:=⟨w.heap.size,0,none⟩) (Nat.le_refl _) (.slice A (alls s.data.toList).1.length c)
 have HR:=Lib.hid (And.intro hr1 hb2)
 clear hr1 hb2 hq1 hq2
 have hl1:=hbx1.lt
 go_wp2_with fail
 exact bodyPost_ret (v:=.tuple #[.slice A (alls s.data.toList).1.length c,.int .i64 ((alls s.data.toList).2 : Int)]) (by simp [results,Tryz.results93,go_sem,hc2]) rfl ⟨_,rfl,HR.out.1,HR.out.2⟩
end
end Go.Proofs.YtegjjhjgfkcbhaaGreatDoor
