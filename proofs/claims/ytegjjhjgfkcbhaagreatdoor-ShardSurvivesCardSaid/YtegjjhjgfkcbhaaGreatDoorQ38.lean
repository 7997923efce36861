/- Read. Conditions: as each part says. -/
import Derived.Test.YtegjjhjgfkcbhaaGreatDoorQ19
set_option linter.unusedVariables false
set_option linter.unusedSimpArgs false
set_option maxRecDepth 100000
set_option maxHeartbeats 16000000
namespace Go.Proofs.YtegjjhjgfkcbhaaGreatDoor
section
open Go Go.RowKit
theorem readL_next (nw : List ByteArray) (b n : Nat) : readL nw b (n + 1) = (nw.getD b ⟨#[]⟩).data.toList ++ (if (nw.getD b ⟨#[]⟩).size < 128 then [] else readL nw (b + 1) n):=rfl
section
variable {w w' : World} {F : Nat -> Prop} {d N : Nat} {su : List ByteArray} {l : List (Nat × ByteArray)}
theorem Disk.nowSmall (h : Disk w F d N su l) (i : Nat) : ((setsP l su).getD i ⟨#[]⟩).size <= 128:=getD_small (setsP_small (fun p hp=>(h.parts p hp).2) su h.small) i
theorem hread_any (h : Disk w F d N su l) (f n : Nat) (hfn : f + n <= N) (hN : N <= 16384) : Calls Tryz.prog 92 #[halfV d f n] w (Gives (.string ⟨(readL (setsP l su) f n).toArray⟩) w):=by
 obtain ⟨W1,hW1⟩ : ∃ W1,W1 = w.alloc (.cells #[.pointer (some ⟨d,0,none⟩),.int .i64 (f : Int),.int .i64 (n : Int)] 156):=⟨_,rfl⟩
 obtain ⟨W2,hW2⟩ : ∃ W2,W2 = W1.alloc (.cells #[.pointer none,.slice none 0 0] 141):=⟨_,rfl⟩
 have s1 : W1.heap.size = w.heap.size + 1:=by rw [hW1];simp
 have s2 : W2.heap.size = w.heap.size + 2:=by rw [hW2];simp [s1]
 have hx1 : Hf W1 w.heap.size d f n:=by rw [hW1];exact Hf.new w d f n
 have hx2 : Hf W2 w.heap.size d f n:=hx1.keep (by rw [hW2];exact heap_alloc_lt _ _ (by omega))
 have hbd : Bld (w.heap.size + 1) (w.heap.size + 1) [] W2:=by have:=bld_new W1;rw [s1,<- hW2] at this;exact this
 have hb2 : Below w.heap.size w W2:=by rw [hW2,hW1];exact ((Below.refl _ w).alloc (Nat.le_refl _) _).alloc (by simp) _
 have hc2:=hx2.c2
 have hlt0:=hx2.lt
 have HSm:=Lib.hid h.nowSmall
 have H:=Lib.hid (And.intro h (And.intro hx2 (And.intro hbd hb2)))
 generalize hnw : setsP l su = nw at *
 have HNW:=Lib.hid hnw
 have HFN:=Lib.hid hfn
 clear h hx1 hx2 hbd hb2 hnw
 unfold halfV
 go_enter Tryz.func92,Tryz.ntmps92
 go_wp2_with fail
 rw [<- hW1,<- hW2]
 clear hW1 hW2 s1
 go_loopw [9] (fun i wr=>∃ (k : Nat) (P : List UInt8),i = .int .i64 (k : Int) /\ k <= n /\ Hid (readL nw f n = P ++ readL nw (f + k) (n - k)) /\ P.length <= 128 * k /\ Bld (w.heap.size + 1) (w.heap.size + 1) P wr /\ Hf wr w.heap.size d f n /\ Below w.heap.size w wr /\ w.heap.size + 2 <= wr.heap.size) (fun i _=>n - (intOf i).toNat)
 case atStart=>exact ⟨0,[],rfl,Nat.zero_le _,Lib.hid rfl,by simp,H.out.2.2.1,H.out.2.1,H.out.2.2.2,by omega⟩
 case round =>
  obtain ⟨k,P,rfl,hk,HR,hP,hB,hH,hb,hsz⟩:=hrel
  have c0:=hH.c0
  have c1:=hH.c1
  have hl0:=hH.lt
  by_cases hlt : k < n
  ·have hltz : (k : Int) < (n : Int):=by omega
   have hg:=a_get (H.out.1.below hb) (f + k) (by have:=HFN.out;omega)
   rw [HNW.out,Int.natCast_add] at hg
   have hs:=HSm.out (f + k)
   have hnx : readL nw (f + k) (n - k) = (nw.getD (f + k) ⟨#[]⟩).data.toList ++ (if (nw.getD (f + k) ⟨#[]⟩).size < 128 then [] else readL nw (f + k + 1) (n - (k + 1))):=by
    rw [show n - k = (n - (k + 1)) + 1 by omega]
    exact readL_next nw (f + k) _
   generalize nw.getD (f + k) ⟨#[]⟩ = s at *
   have HX:=Lib.hid hnx
   have HG:=Lib.hid hg
   have HB:=Lib.hid (And.intro hB (And.intro hH (And.intro hb hsz)))
   have hfz : (f : Int) + (k : Int) <= 40000:=by have:=HFN.out;omega
   have hf0 : (0 : Int) <= (f : Int) + (k : Int):=by omega
   have HLE:=Lib.hid (show w.heap.size + 1 <= wr.heap.size by omega)
   have HPS:=Lib.hid (show P.length + s.size <= 1000000000 by have:=HFN.out;omega)
   clear hnx hg hB hH hb hsz
   go_wp2_with fail
   refine HG.out.mono ?_
   rintro e w1 ⟨rfl,q,rfl⟩
   go_wp2_with fail
   refine (bwrite_any _ _ P s (wr.drewN q) HB.out.1 HPS.out HLE.out).mono ?_
   rintro e w2 ⟨rfl,hB2,hb2⟩
   have hH2 : Hf w2 w.heap.size d f n:=HB.out.2.1.keep (hb2.block w.heap.size (by omega))
   have hbb : Below w.heap.size w w2:=(below_drewN HB.out.2.2.1 q).trans (hb2.mono (B':=w.heap.size) (by omega))
   have hs2 : w.heap.size + 2 <= w2.heap.size:=Nat.le_trans HB.out.2.2.2 hb2.size
   by_cases hsm : s.size < 128
   ·have hsz : (s.size : Int) < 128:=by omega
    have HE : Hid (readL nw f n = P ++ s.data.toList):=Lib.hid (by rw [HR.out,HX.out,if_pos hsm,List.append_nil])
    have HY:=Lib.hid (And.intro hB2 (And.intro hH2 (And.intro hbb hs2)))
    clear hsm HX HR hB2 hH2 hbb hs2 hb2
    go_wp2_with fail
    refine (bstring_any _ _ _ w2 HY.out.1 (by have:=HY.out.2.2.2;omega)).mono ?_
    rintro e w3 ⟨rfl,hb3⟩
    go_wp2_with fail
    go_ret
    rw [HE.out]
    exact ⟨rfl,HY.out.2.2.1.trans (hb3.mono (B':=w.heap.size) (by omega))⟩
   ·have hsz : ¬ (s.size : Int) < 128:=by omega
    have HE : Hid (readL nw f n = (P ++ s.data.toList) ++ readL nw (f + (k + 1)) (n - (k + 1))):=Lib.hid (by rw [HR.out,HX.out,if_neg hsm,List.append_assoc];rfl)
    have HY:=Lib.hid (And.intro hB2 (And.intro hH2 (And.intro hbb hs2)))
    clear hsm HX HR hB2 hH2 hbb hs2 hb2
    go_wp2_with fail
    go_roundw
    case rel=>exact ⟨k + 1,_,by go_num,by omega,HE,by rw [List.length_append,size_list];omega,HY.out.1,HY.out.2.1,HY.out.2.2.1,HY.out.2.2.2⟩
    case measure=>simp [intOf];omega
  ·obtain rfl : k = n:=by omega
   have hnl : ¬ (k : Int) < (k : Int):=by omega
   have HE : Hid (readL nw f k = P):=Lib.hid (by rw [HR.out,Nat.sub_self];simp [readL])
   have HB:=Lib.hid (And.intro hB (And.intro hH (And.intro hb hsz)))
   clear HR hB hH hb hsz
   go_wp2_with fail
   refine (bstring_any _ _ _ wr HB.out.1 (by have:=HB.out.2.2.2;omega)).mono ?_
   rintro e w3 ⟨rfl,hb3⟩
   go_wp2_with fail
   go_ret
   rw [HE.out]
   exact ⟨rfl,HB.out.2.2.1.trans (hb3.mono (B':=w.heap.size) (by omega))⟩
end
end
end Go.Proofs.YtegjjhjgfkcbhaaGreatDoor
