/- BMathC BMathD BRdA BApp. Conditions: as each part says. -/
import Derived.Test.YtegjjhjgfkcbhaaGreatDoorQ01
import Derived.Test.YtegjjhjgfkcbhaaGreatDoorChecked
import Derived.WalkKit
import Derived.BigQuiet
import Derived.Deep.QuietTactic
import Derived.LoopTactic
import Derived.Lib.Hide
import Derived.WalkSpells
import Derived.WalkLawsBesides
set_option linter.unusedVariables false
set_option linter.unusedSimpArgs false
set_option maxRecDepth 100000
set_option maxHeartbeats 16000000
namespace Go.Proofs.YtegjjhjgfkcbhaaGreatDoor
namespace Be
section
open Go
theorem rd_i (r : List UInt8) (w : Nat) : rd (105 :: r) w = rdNum r:=by rw [rd];simp
theorem rd_d (c : UInt8) (r : List UInt8) (w : Nat) (h : isDig c = true) : rd (c :: r) w = rdText (c :: r):=by
 rw [rd,if_neg (by rintro rfl;revert h;decide),if_pos h]
theorem rd_l (r : List UInt8) (w : Nat) (h : w < 8) : rd (108 :: r) w = (match rdL r (w + 1) with | .error e=>.error e | .ok (ts,n)=>.ok (.mk 3 0 .empty ts,n + 1)):=by
 rw [rd,if_neg (by decide),if_neg (by decide),if_pos rfl,if_neg (by omega)]
 rcases rdL r (w + 1) with e | ⟨ts,n⟩ <;> rfl
theorem rdL_e (r : List UInt8) (w : Nat) : rdL (101 :: r) w = .ok ([],1):=by rw [rdL,if_pos rfl]
theorem rdL_c (c : UInt8) (r : List UInt8) (w : Nat) (h : c ≠ 101) : rdL (c :: r) w = (match rd (c :: r) w with | .error e=>.error e | .ok (t,n)=>match rdL (r.drop (n - 1)) w with | .error e=>.error e | .ok (ts,m)=>.ok (t :: ts,n + m)):=by
 rw [rdL,if_neg h]
 rcases rd (c :: r) w with e | ⟨t,n⟩
 ·rfl
 ·simp only
  rcases rdL (r.drop (n - 1)) w with e | ⟨ts,m⟩ <;> rfl
theorem dec_head (n : Nat) : ∃ c r,Lib.decDigits n = c :: r /\ isDig c = true /\ (c = 48 -> n = 0):=by
 induction n using Nat.strongRecOn with
 | _ n ih =>
  by_cases h : n < 10
  ·refine ⟨_,[],dec_small h,isDig_of h,fun e=>?_⟩
   have:=congrArg UInt8.toNat e
   rw [u8_ofNat (by omega)] at this
   simp at this;omega
  ·obtain ⟨c,r,e,hd,h0⟩:=ih (n / 10) (by omega)
   refine ⟨c,r ++ [UInt8.ofNat (48 + n % 10)],by rw [dec_big h,e];rfl,hd,fun e=>?_⟩
   have:=h0 e
   omega
theorem nd101 : isDig 101 = false:=by decide
theorem nd58 : isDig 58 = false:=by decide
theorem rdNum_minus (r : List UInt8) : rdNum (45 :: r) = (if r.head? = some 48 then .error 20 else match dg 9223372036854775808 101 20 true 0 r with | .error e=>.error e | .ok (m,n)=>.ok (.mk 1 (-(m : Int)) .empty [],n + 2)):=rfl
theorem rdNum_plus (r : List UInt8) (h : r.head? ≠ some 45) : rdNum r = (match dg 9223372036854775807 101 20 true 0 r with | .error e=>.error e | .ok (m,n)=>.ok (.mk 1 m .empty [],n + 1)):=by
 unfold rdNum
 split
 ·exact absurd rfl h
 ·rfl
theorem itoa_cases (n : Int) (h0 : -9223372036854775808 <= n) (h1 : n <= 9223372036854775807) :
  (∃ m : Nat,m ≠ 0 /\ m <= 9223372036854775808 /\ n = -(m : Int) /\ Lib.itoa n = 45 :: Lib.decDigits m) \/ (∃ m : Nat,m <= 9223372036854775807 /\ n = m /\ Lib.itoa n = Lib.decDigits m):=by
 by_cases h : n < 0
 ·exact .inl ⟨n.natAbs,by omega,by omega,by omega,by unfold Lib.itoa;rw [if_pos h]⟩
 ·exact .inr ⟨n.toNat,by omega,by omega,by unfold Lib.itoa;rw [if_neg h]⟩
theorem rdNum_put (n : Int) (h0 : -9223372036854775808 <= n) (h1 : n <= 9223372036854775807) (rest : List UInt8) : rdNum (Lib.itoa n ++ 101 :: rest) = .ok (.mk 1 n .empty [],(Lib.itoa n).length + 2):=by
 rcases itoa_cases n h0 h1 with ⟨m,hm0,hm,rfl,e⟩ | ⟨m,hm,rfl,e⟩
 ·obtain ⟨c,r,hc,hd,hz⟩:=dec_head m
  have hp:=dg_put 9223372036854775808 101 20 nd101 m hm rest
  rw [e,List.cons_append,rdNum_minus,if_neg (by rw [hc];simp;intro e;exact hm0 (hz e)),hp]
  simp
 ·obtain ⟨c,r,hc,hd,hz⟩:=dec_head m
  have hp:=dg_put 9223372036854775807 101 20 nd101 m hm rest
  rw [e,rdNum_plus _ (by rw [hc];simp;rintro rfl;revert hd;decide),hp]
theorem rdText_put (s : ByteArray) (hs : s.size <= 65536) (rest : List UInt8) : rdText (Lib.itoa s.size ++ 58 :: s.data.toList ++ rest) = .ok (.mk 2 0 s [],(Lib.itoa s.size).length + 1 + s.size):=by
 have hp:=dg_put 65536 58 23 nd58 s.size hs (s.data.toList ++ rest)
 rw [itoa_nat]
 unfold rdText
 rw [List.append_assoc,List.cons_append,hp]
 have hd : (Lib.decDigits s.size ++ 58 :: (s.data.toList ++ rest)).drop ((Lib.decDigits s.size).length + 1) = s.data.toList ++ rest:=by
  rw [<- List.singleton_append,<- List.append_assoc,List.drop_left' (by simp)]
 have hl : s.data.toList.length = s.size:=by simp
 simp only [hd]
 rw [if_neg (by simp),List.take_left' (by simp)]
theorem enc_list (n : Int) (s : ByteArray) (l : List T) : enc (.mk 3 n s l) = 108 :: (encL l ++ [101]):=by rw [enc,if_neg (by decide),if_neg (by decide),if_pos rfl]
theorem enc_text (n : Int) (s : ByteArray) (l : List T) : enc (.mk 2 n s l) = Lib.itoa s.size ++ 58 :: s.data.toList:=by rw [enc,if_neg (by decide),if_pos rfl]
theorem enc_num (n : Int) (s : ByteArray) (l : List T) : enc (.mk 1 n s l) = 105 :: (Lib.itoa n ++ [101]):=by rw [enc,if_pos rfl]
theorem kinds_cases {k n : Int} {s : ByteArray} {l : List T} (h : kindsOk (.mk k n s l) = true) : k = 1 \/ k = 2 \/ (k = 3 /\ kindsOkL l = true):=by simpa [kindsOk,or_assoc] using h
theorem enc_head : ∀ t : T,kindsOk t = true -> ∃ c r,enc t = c :: r /\ c ≠ 101
 | .mk k n s l,h=>by
  rcases kinds_cases h with rfl | rfl | ⟨rfl,_⟩
  ·exact ⟨_,_,enc_num n s l,by decide⟩
  ·obtain ⟨c,r,hc,hd,_⟩:=dec_head s.size
   rw [enc_text,itoa_nat,hc]
   exact ⟨c,_,rfl,by rintro rfl;revert hd;decide⟩
  ·exact ⟨_,_,enc_list n s l,by decide⟩
mutual
theorem rd_enc : ∀ (t : T) (w : Nat) (rest : List UInt8),kindsOk t = true -> wfT t = true -> deepT t + w <= 8 -> (enc t).length <= 65536 -> rd (enc t ++ rest) w = .ok (tidy t,(enc t).length)
 | .mk k n s l,w,rest,hk,hw,hd,hl=>by
  rcases kinds_cases hk with rfl | rfl | ⟨rfl,hkl⟩
  ·have hn : -9223372036854775808 <= n /\ n <= 9223372036854775807:=by
    simp only [wfT,Bool.and_eq_true,decide_eq_true_eq] at hw
    exact hw.1.1
   rw [enc_num,List.cons_append,rd_i,List.append_assoc,List.singleton_append,rdNum_put n hn.1 hn.2]
   simp [tidy]
  ·rw [enc_text] at hl ⊢
   have hs : s.size <= 65536:=by simp at hl;omega
   obtain ⟨c,r,hc,hdg,_⟩:=dec_head s.size
   have:=rdText_put s hs rest
   rw [show Lib.itoa s.size ++ 58 :: s.data.toList ++ rest = c :: (r ++ 58 :: s.data.toList ++ rest) by rw [itoa_nat,hc];rfl] at this ⊢
   rw [rd_d _ _ _ hdg,this]
   simp [tidy]
   omega
  ·have hdl : deepL l + (w + 1) <= 8:=by simp [deepT] at hd;omega
   have hwl : wfL l = true:=by
    simp only [wfT,Bool.and_eq_true] at hw
    exact hw.2
   rw [enc_list] at hl ⊢
   rw [List.cons_append,rd_l _ _ (by omega),List.append_assoc,List.singleton_append,rdL_enc l (w + 1) rest hkl hwl hdl (by simp at hl;omega)]
   simp [tidy]
theorem rdL_enc : ∀ (l : List T) (w : Nat) (rest : List UInt8),kindsOkL l = true -> wfL l = true -> deepL l + w <= 8 -> (encL l).length <= 65536 -> rdL (encL l ++ 101 :: rest) w = .ok (tidyL l,(encL l).length + 1)
 | [],w,rest,_,_,_,_=>by
  rw [encL,List.nil_append,rdL_e]
  rfl
 | t :: ts,w,rest,hk,hw,hd,hl=>by
  simp only [kindsOkL,Bool.and_eq_true] at hk
  simp only [wfL,Bool.and_eq_true] at hw
  simp only [deepL] at hd
  rw [encL,List.length_append] at hl
  obtain ⟨c,r,hc,hne⟩:=enc_head t hk.1
  have h1:=rd_enc t w (encL ts ++ 101 :: rest) hk.1 hw.1 (by omega) (by omega)
  have h2:=rdL_enc ts w rest hk.2 hw.2 (by omega) (by omega)
  rw [encL,List.append_assoc]
  rw [hc,List.cons_append] at h1 ⊢
  rw [rdL_c _ _ _ hne,h1]
  simp only
  rw [show (c :: r).length - 1 = r.length by simp,List.drop_left,h2]
  simp [tidyL]
  omega
end
end
end Be
namespace Be
section
open Go
structure Read (bs : List UInt8) (w : Nat) (t : T) (n : Nat) : Prop where
 kinds : kindsOk t = true
 deep : deepT t + w <= 8
 wf : wfT t = true
 clean : cleanT t = true
 tidy : tidy t = t
 bytes : enc t = bs.take n
 le : n <= bs.length
 ge : 2 <= n
structure ReadL (bs : List UInt8) (w : Nat) (ts : List T) (n : Nat) : Prop where
 kinds : kindsOkL ts = true
 deep : deepL ts + w <= 8
 wf : wfL ts = true
 clean : cleanL ts = true
 tidy : tidyL ts = ts
 bytes : encL ts ++ [101] = bs.take n
 le : n <= bs.length
 ge : 1 <= n
 count : 2 * ts.length + 1 <= n
theorem itoa_neg {m : Nat} (h : m ≠ 0) : Lib.itoa (-(m : Int)) = 45 :: Lib.decDigits m:=by
 unfold Lib.itoa
 rw [if_pos (by omega),show (-(m : Int)).natAbs = m by omega]
theorem rdNum_inv {r : List UInt8} {w : Nat} {t : T} {n : Nat} (hw : w <= 8) (h : rdNum r = .ok (t,n)) : Read (105 :: r) w t n:=by
 by_cases hm : r.head? = some 45
 ·obtain ⟨r',rfl⟩ : ∃ r',r = 45 :: r':=by
   rcases r with _ | ⟨c,r'⟩
   ·simp at hm
   ·exact ⟨r',by simp at hm;rw [hm]⟩
  rw [rdNum_minus] at h
  split at h
  ·cases h
  ·rename_i h48
   rcases hx : dg 9223372036854775808 101 20 true 0 r' with e | ⟨m,k⟩
   ·rw [hx] at h;cases h
   ·rw [hx] at h
    simp only [Except.ok.injEq,Prod.mk.injEq] at h
    obtain ⟨rfl,rfl⟩:=h
    obtain ⟨h1,h2,h3,h4⟩:=dg_inv _ _ _ nd101 r' true 0 m k (fun _=>rfl) (by omega) hx
    simp only [if_true,List.nil_append] at h4
    have hm0 : m ≠ 0:=by
     rintro rfl
     rcases r' with _ | ⟨c,r''⟩
     ·simp at h3;omega
     ·obtain ⟨k,rfl⟩ : ∃ k',k = k' + 1:=⟨k - 1,by omega⟩
      rw [List.take_succ_cons,dec_small (by omega)] at h4
      simp at h4
      exact h48 (by simp [h4.1])
    refine ⟨rfl,by simp [deepT];omega,?_,rfl,by simp [tidy],?_,by simp;omega,by omega⟩
    ·simp only [wfT,wfL,Bool.and_true,Bool.and_eq_true,decide_eq_true_eq];omega
    ·rw [enc_num,itoa_neg hm0,show k + 2 = (k + 1) + 1 by omega,List.take_succ_cons,List.take_succ_cons,h4]
     rfl
 ·rw [rdNum_plus r hm] at h
  rcases hx : dg 9223372036854775807 101 20 true 0 r with e | ⟨m,k⟩
  ·rw [hx] at h;cases h
  ·rw [hx] at h
   simp only [Except.ok.injEq,Prod.mk.injEq] at h
   obtain ⟨rfl,rfl⟩:=h
   obtain ⟨h1,h2,h3,h4⟩:=dg_inv _ _ _ nd101 r true 0 m k (fun _=>rfl) (by omega) hx
   simp only [if_true,List.nil_append] at h4
   refine ⟨rfl,by simp [deepT];omega,?_,rfl,by simp [tidy],?_,by simp;omega,by omega⟩
   ·simp only [wfT,wfL,Bool.and_true,Bool.and_eq_true,decide_eq_true_eq];omega
   ·rw [enc_num,itoa_nat,List.take_succ_cons,h4]
theorem rdText_inv {bs : List UInt8} {w : Nat} {t : T} {n : Nat} (hw : w <= 8) (h : rdText bs = .ok (t,n)) : Read bs w t n:=by
 unfold rdText at h
 rcases hx : dg 65536 58 23 true 0 bs with e | ⟨m,k⟩
 ·rw [hx] at h;cases h
 ·rw [hx] at h
  simp only at h
  split at h
  ·cases h
  ·rename_i hlt
   simp only [Except.ok.injEq,Prod.mk.injEq] at h
   obtain ⟨rfl,rfl⟩:=h
   obtain ⟨h1,h2,h3,h4⟩:=dg_inv _ _ _ nd58 bs true 0 m k (fun _=>rfl) (by omega) hx
   simp only [if_true,List.nil_append] at h4
   rw [List.length_drop] at hlt
   have hsz : (⟨((bs.drop k).take m).toArray⟩ : ByteArray).size = m:=by
    simp [ByteArray.size];omega
   have hd:=dec_pos m
   have hkl : k = (Lib.decDigits m).length + 1:=by
    have:=congrArg List.length h4
    simp at this;omega
   refine ⟨rfl,by simp [deepT];omega,by simp [wfT,wfL],by simp [cleanT,cleanL],by simp [tidy],?_,by omega,by omega⟩
   rw [enc_text,hsz,itoa_nat,List.take_add,h4]
   simp
theorem rd_inv_all (N : Nat) : (∀ (bs : List UInt8) (w : Nat) (t : T) (n : Nat),bs.length <= N -> w <= 8 -> rd bs w = .ok (t,n) -> Read bs w t n) /\
  (∀ (bs : List UInt8) (w : Nat) (ts : List T) (n : Nat),bs.length <= N -> w <= 8 -> rdL bs w = .ok (ts,n) -> ReadL bs w ts n):=by
 induction N with
 | zero =>
  refine ⟨fun bs w t n hl hw h=>?_,fun bs w t n hl hw h=>?_⟩
  all_goals
   obtain rfl : bs = []:=List.eq_nil_of_length_eq_zero (by omega)
  ·rw [rd] at h;cases h
  ·rw [rdL] at h;cases h
 | succ N ih =>
  have hV : ∀ (bs : List UInt8) (w : Nat) (t : T) (n : Nat),bs.length <= N + 1 -> w <= 8 -> rd bs w = .ok (t,n) -> Read bs w t n:=by
   intro bs w t n hl hw h
   rcases bs with _ | ⟨c,r⟩
   ·rw [rd] at h;cases h
   ·rw [rd] at h
    split at h
    ·rename_i hc
     subst hc
     exact rdNum_inv hw h
    ·split at h
     ·exact rdText_inv hw h
     ·split at h
      ·rename_i hc
       subst hc
       split at h
       ·cases h
       ·rename_i hw8
        rcases hx : rdL r (w + 1) with e | ⟨ts,k⟩
        ·rw [hx] at h;cases h
        ·rw [hx] at h
         simp only [Except.ok.injEq,Prod.mk.injEq] at h
         obtain ⟨rfl,rfl⟩:=h
         obtain ⟨a1,a2,a3,a4,a5,a6,a7,a8,a9⟩:=ih.2 r (w + 1) ts k (by simp at hl;omega) (by omega) hx
         refine ⟨by simp [kindsOk,a1],by simp [deepT];omega,by simp [wfT,a3],by simp [cleanT,a4],by simp [tidy,a5],?_,by simp;omega,by omega⟩
         rw [enc_list,a6,List.take_succ_cons]
      ·cases h
  refine ⟨hV,fun bs w ts n hl hw h=>?_⟩
  rcases bs with _ | ⟨c,r⟩
  ·rw [rdL] at h;cases h
  ·rw [rdL] at h
   split at h
   ·rename_i hc
    subst hc
    simp only [Except.ok.injEq,Prod.mk.injEq] at h
    obtain ⟨rfl,rfl⟩:=h
    exact ⟨rfl,by simp [deepL];omega,rfl,rfl,rfl,rfl,by simp,by omega,by simp⟩
   ·rcases hx : rd (c :: r) w with e | ⟨t,k⟩
    ·rw [hx] at h;cases h
    ·rw [hx] at h
     simp only at h
     obtain ⟨a1,a2,a3,a4,a5,a6,a7,a8⟩:=hV _ _ _ _ hl hw hx
     rcases hy : rdL (r.drop (k - 1)) w with e | ⟨us,m⟩
     ·rw [hy] at h;cases h
     ·rw [hy] at h
      simp only [Except.ok.injEq,Prod.mk.injEq] at h
      obtain ⟨rfl,rfl⟩:=h
      obtain ⟨b1,b2,b3,b4,b5,b6,b7,b8,b9⟩:=ih.2 _ _ _ _ (by simp at hl ⊢;omega) hw hy
      rw [List.length_drop] at b7
      refine ⟨by simp [kindsOkL,a1,b1],by simp [deepL];omega,by simp [wfL,a3,b3],by simp [cleanL,a4,b4],by simp [tidyL,a5,b5],?_,by simp at a7 ⊢;omega,by omega,by simp;omega⟩
      rw [encL,List.append_assoc,b6,a6,List.take_add]
      congr 2
      rw [show k = (k - 1) + 1 by omega,List.drop_succ_cons]
      simp
theorem rd_inv {bs : List UInt8} {w : Nat} {t : T} {n : Nat} (hw : w <= 8) (h : rd bs w = .ok (t,n)) : Read bs w t n:=(rd_inv_all bs.length).1 bs w t n (Nat.le_refl _) hw h
end
end Be
namespace Be
section
open Go Go.RowKit
theorem ret_bool {a b : Bool} (h : a = b) : Ending.returned (.bool a) = .returned (.bool b):=by rw [h]
def IsRd (w : World) (R : Nat) (s : ByteArray) (p d : Nat) : Prop:=w.heap[R]? = some (.cells #[.string s,.int .i64 (p : Int),.int .i64 (d : Int)] 282 (0,0))
section
variable {w w' : World} {R : Nat} {s : ByteArray} {p d : Nat}
theorem IsRd.lt (h : IsRd w R s p d) : R < w.heap.size:=(Array.getElem?_eq_some_iff.1 h).1
theorem IsRd.c0 (h : IsRd w R s p d) : w.cell? ⟨R,0,none⟩ = some (.string s):=by unfold IsRd at h;simp [World.cell?,h]
theorem IsRd.c1 (h : IsRd w R s p d) : w.cell? ⟨R,1,none⟩ = some (.int .i64 (p : Int)):=by unfold IsRd at h;simp [World.cell?,h]
theorem IsRd.c2 (h : IsRd w R s p d) : w.cell? ⟨R,2,none⟩ = some (.int .i64 (d : Int)):=by unfold IsRd at h;simp [World.cell?,h]
theorem IsRd.f (h : IsRd w R s p d) (j : Nat) : w.frozen? ⟨R,j,none⟩ = false:=by unfold IsRd at h;simp [World.frozen?,h]
theorem IsRd.drewN (h : IsRd w R s p d) (n : Nat) : IsRd (w.drewN n) R s p d:=h
theorem IsRd.drew (h : IsRd w R s p d) : IsRd w.drew R s p d:=h
theorem IsRd.set1 (h : IsRd w R s p d) (p' : Nat) : IsRd (w.setCell ⟨R,1,none⟩ (.int .i64 (p' : Int))) R s p' d:=by
 have hl:=h.lt
 unfold IsRd at h ⊢
 simp only [World.setCell,Array.getElem?_modify,h]
 simp
theorem IsRd.set2 (h : IsRd w R s p d) (d' : Nat) : IsRd (w.setCell ⟨R,2,none⟩ (.int .i64 (d' : Int))) R s p d':=by
 have hl:=h.lt
 unfold IsRd at h ⊢
 simp only [World.setCell,Array.getElem?_modify,h]
 simp
theorem IsRd.sc1 (h : IsRd w R s p d) (q : Nat) (v : Value) : ((w.drewN q).setCell ⟨R,1,none⟩ v).cell? ⟨R,1,none⟩ = some v:=World.cell?_setCell_same _ _ _ (h.drewN q).c1
theorem IsRd.of (h : IsRd w R s p d) (e : w'.heap[R]? = w.heap[R]?) : IsRd w' R s p d:=by unfold IsRd at *;rw [e];exact h
end
def Quiet (v : Value) (w : World) (e : Ending) (w' : World) : Prop:=e = .returned v /\ ∃ q,w' = w.drewN q
theorem more_any (R : Nat) (s : ByteArray) (p d : Nat) (w : World) (h : IsRd w R s p d) : Calls Tryz.prog 223 #[.pointer (some ⟨R,0,none⟩)] w (Quiet (.bool (decide (p < s.size))) w):=by
 have h0:=h.c0
 have h1:=h.c1
 go_enter Tryz.func223,Tryz.ntmps223
 go_wp2
 go_quiet (fail)
 go_wp2
 go_ret
 exact ⟨ret_bool (by simp),_,rfl⟩
theorem more_yes (R : Nat) (s : ByteArray) (p d : Nat) (w : World) (h : IsRd w R s p d) (hp : p < s.size) : Calls Tryz.prog 223 #[.pointer (some ⟨R,0,none⟩)] w (Quiet (.bool true) w):=by
 have:=more_any R s p d w h
 rwa [decide_eq_true hp] at this
theorem more_no (R : Nat) (s : ByteArray) (p d : Nat) (w : World) (h : IsRd w R s p d) (hp : ¬ p < s.size) : Calls Tryz.prog 223 #[.pointer (some ⟨R,0,none⟩)] w (Quiet (.bool false) w):=by
 have:=more_any R s p d w h
 rwa [decide_eq_false hp] at this
theorem isDigit_any (c : UInt8) (w : World) : Calls Tryz.prog 227 #[.int .u8 (c.toNat : Int)] w fun e w'=>e = .returned (.bool (isDig c)) /\ w = w':=by
 by_cases h0 : (48 : Int) <= (c.toNat : Int)
 ·by_cases h1 : (c.toNat : Int) <= 57
  ·have e : isDig c = true:=isDig_iff.2 (by omega)
   rw [e]
   go_enter Tryz.func227,Tryz.ntmps227
   go_wp2
   go_ret
   exact ⟨rfl,rfl⟩
  ·have e : isDig c = false:=by rw [Bool.eq_false_iff,Ne,isDig_iff];omega
   rw [e]
   go_enter Tryz.func227,Tryz.ntmps227
   go_wp2
   go_ret
   exact ⟨rfl,rfl⟩
 ·have e : isDig c = false:=by rw [Bool.eq_false_iff,Ne,isDig_iff];omega
  rw [e]
  go_enter Tryz.func227,Tryz.ntmps227
  go_wp2
  go_ret
  exact ⟨rfl,rfl⟩
theorem is_no (R : Nat) (s : ByteArray) (p d : Nat) (c : UInt8) (w : World) (h : IsRd w R s p d) (hp : ¬ p < s.size) : Calls Tryz.prog 224 #[.pointer (some ⟨R,0,none⟩),.int .u8 (c.toNat : Int)] w (Quiet (.bool false) w):=by
 have h0:=h.c0
 have h1:=h.c1
 have hd : decide (p < s.size) = false:=decide_eq_false hp
 go_enter Tryz.func224,Tryz.ntmps224
 go_wp2_with fail
 go_quiet ((go_at_call 223;refine Calls.quiet_of (more_no R s p d _ h hp)))
 go_wp2
 go_ret
 exact ⟨rfl,_,rfl⟩
theorem u8_eq_cast {a b : UInt8} : ((a.toNat : Int) == (b.toNat : Int)) = (a == b):=by
 rw [Bool.eq_iff_iff,beq_iff_eq,beq_iff_eq,Int.ofNat_inj,UInt8.toNat_inj]
theorem is_in (R : Nat) (s : ByteArray) (p d : Nat) (c x : UInt8) (w : World) (h : IsRd w R s p d) (hp : p < s.size) (hs : s.size <= 1000000000) (hx : s[p] = x) : Calls Tryz.prog 224 #[.pointer (some ⟨R,0,none⟩),.int .u8 (c.toNat : Int)] w (Quiet (.bool (x == c)) w):=by
 have h0:=h.c0
 have h1:=h.c1
 have hd : decide (p < s.size) = true:=decide_eq_true hp
 have hpz : (p : Int) < (s.size : Int):=by omega
 have HX:=Lib.hid hx
 clear hx
 go_enter Tryz.func224,Tryz.ntmps224
 go_wp2_with fail
 go_quiet ((go_at_call 223;refine Calls.quiet_of (more_yes R s p d _ h hp)))
 go_wp2
 go_ret
 refine ⟨ret_bool ?_,_,rfl⟩
 rw [<- HX.out]
 first | exact u8_eq_cast | simp [u8_eq_cast]
end
end Be
namespace Be
section
open Go Go.RowKit
theorem news_cells (W : World) (cs : Array Value) (E : TypeId) : ∀ j u,cs.toList[j]? = some u -> (W.alloc (.cells cs E)).cell? ((⟨W.heap.size,0,none⟩ : Addr).add j) = some u:=by
 intro j u hj
 rw [add_flat,Nat.zero_add]
 have hb:=heap_alloc_new W (.cells cs E)
 simp only [World.cell?,hb]
 simpa using hj
theorem append_new {P : Program} {ops : Array Oper} {rest : List Oper} {o : Oper} {a : Act} {Q : Exit -> Act -> World -> Prop} {W : World} (hgd : o.guard = none) (s x : Operand) (t E E' : TypeId)
  (ho : o.op = .call { callee:=.builtin .append,args:=#[s,x],argTypes:=#[t,t] })
  (base : Nat) (i : TypeInfo) (z : Value) (size bytes : Nat) (ht : P.underlying t = some (.slice E)) (hi : P.info? E = some i) (hz : i.zero = some z)
  (hsize : i.size = size) (hby : i.bytes = bytes) (hzs : z.cells.size = size) (hsz : 0 < size) (hb100 : bytes <= 100)
  (v : Value) (n : Nat) (xs : List Value) (hs : a.eval s = v) (hown : W.ownsRow base E size v n xs) (hx : a.eval x = .slice (some ⟨W.heap.size,0,none⟩) 1 1)
  (cs : Array Value) (hcs : cs.size = size) (h1 : ∀ u ∈ cs.toList,u.oneCell' = true) (hn : n <= 1000000000) (hbase : base <= W.heap.size)
  (h : ∀ v' w',w'.ownsRow base E size v' (n + 1) (xs ++ cs.toList) -> W.grownBy w' v.ownBlock -> (v'.ownBlock = v.ownBlock \/ ∀ k,v'.ownBlock = some k -> W.heap.size <= k) -> wpList P ops Q rest (a.put o.dst v') w') :
  wpList P ops Q (o :: rest) a (W.alloc (.cells cs E')):=by
 have hmul : (n + 1) * bytes <= 140737488355328:=by
  have:=Nat.mul_le_mul (show n + 1 <= 1000000001 by omega) hb100
  omega
 obtain ⟨v',w',hrun,h2,h3,_,h5⟩:=run_append_own_at (P:=P) (W.alloc (.cells cs E')) base t o.type E i z size bytes ht hi hz hsize hby hzs hsz v n xs (hown.alloc _) ⟨W.heap.size,0,none⟩ 1 1 cs.toList (by simp [hcs]) (news_cells W cs E') h1 (by unfold maxLen;omega) hmul (by simp;omega)
 refine wpList_plain hgd fun _ hK=>?_
 unfold Oper.wp execOp
 simp only [ho,resolve,invoke,builtin,Sem.run_bind,Sem.run_pure,Result.andThen_ok,List.map_toArray,List.map_cons,List.map_nil,hs,hx,hrun]
 refine hK _ _ (h v' w' h2 (grown_then (World.grownBy_alloc W _ _) h3) ?_)
 rcases h5 with h5 | h5
 ·exact .inl h5
 ·refine .inr fun k hk=>?_
  rw [h5] at hk
  simp at hk
  omega
theorem iface_row : (Tryz.prog.info? 20).map (fun i=>(i.zero,i.size,i.bytes)) = some (some .nilIface,1,16):=by kernel_rfl
theorem value_row : (Tryz.prog.info? 202).map (fun i=>(i.zero,i.size,i.bytes)) = some (some (.agg #[.int .i64 0,.int .i64 0,.string ⟨#[]⟩,.slice none 0 0]),4,56):=by kernel_rfl
theorem byte_row : (Tryz.prog.info? 5).map (fun i=>(i.zero,i.size,i.bytes)) = some (some (.int .u8 0),1,1):=by kernel_rfl
theorem append_iface {ops : Array Oper} {rest : List Oper} {o : Oper} {a : Act} {Q : Exit -> Act -> World -> Prop} {W : World} (hgd : o.guard = none) (s x : Operand)
  (ho : o.op = .call { callee:=.builtin .append,args:=#[s,x],argTypes:=#[303,303] })
  (base : Nat) (v : Value) (n : Nat) (xs : List Value) (y : Value) (hy : y.oneCell' = true) (hs : a.eval s = v) (hown : W.ownsRow base 20 1 v n xs) (hx : a.eval x = .slice (some ⟨W.heap.size,0,none⟩) 1 1)
  (hn : n <= 1000000000) (hbase : base <= W.heap.size)
  (h : ∀ v' w',w'.ownsRow base 20 1 v' (n + 1) (xs ++ [y]) -> W.grownBy w' v.ownBlock -> (v'.ownBlock = v.ownBlock \/ ∀ k,v'.ownBlock = some k -> W.heap.size <= k) -> wpList Tryz.prog ops Q rest (a.put o.dst v') w') :
  wpList Tryz.prog ops Q (o :: rest) a (W.alloc (.cells #[y] 20)):=by
 obtain ⟨i0,hi,hz0,hz1,hz2⟩:=info_parts iface_row
 exact append_new hgd s x 303 20 20 ho base i0 .nilIface 1 16 Tryz.underlying303 hi hz0 hz1 hz2 rfl (by decide) (by decide) v n xs hs hown hx #[y] rfl (by intro u hu;simp at hu;subst hu;exact hy) hn hbase h
theorem append_byte {ops : Array Oper} {rest : List Oper} {o : Oper} {a : Act} {Q : Exit -> Act -> World -> Prop} {W : World} (hgd : o.guard = none) (s x : Operand)
  (ho : o.op = .call { callee:=.builtin .append,args:=#[s,x],argTypes:=#[139,139] })
  (base : Nat) (v : Value) (n : Nat) (xs : List Value) (y : Value) (hy : y.oneCell' = true) (hs : a.eval s = v) (hown : W.ownsRow base 5 1 v n xs) (hx : a.eval x = .slice (some ⟨W.heap.size,0,none⟩) 1 1)
  (hn : n <= 1000000000) (hbase : base <= W.heap.size)
  (h : ∀ v' w',w'.ownsRow base 5 1 v' (n + 1) (xs ++ [y]) -> W.grownBy w' v.ownBlock -> (v'.ownBlock = v.ownBlock \/ ∀ k,v'.ownBlock = some k -> W.heap.size <= k) -> wpList Tryz.prog ops Q rest (a.put o.dst v') w') :
  wpList Tryz.prog ops Q (o :: rest) a (W.alloc (.cells #[y] 5)):=by
 obtain ⟨i0,hi,hz0,hz1,hz2⟩:=info_parts byte_row
 exact append_new hgd s x 139 5 5 ho base i0 (.int .u8 0) 1 1 Tryz.underlying139 hi hz0 hz1 hz2 rfl (by decide) (by decide) v n xs hs hown hx #[y] rfl (by intro u hu;simp at hu;subst hu;exact hy) hn hbase h
theorem append_value {ops : Array Oper} {rest : List Oper} {o : Oper} {a : Act} {Q : Exit -> Act -> World -> Prop} {W : World} (hgd : o.guard = none) (s x : Operand)
  (ho : o.op = .call { callee:=.builtin .append,args:=#[s,x],argTypes:=#[200,200] })
  (base : Nat) (v : Value) (n : Nat) (xs : List Value) (c0 c1 c2 c3 : Value) (hy : ∀ u ∈ [c0,c1,c2,c3],u.oneCell' = true) (hs : a.eval s = v) (hown : W.ownsRow base 202 4 v n xs) (hx : a.eval x = .slice (some ⟨W.heap.size,0,none⟩) 1 1)
  (hn : n <= 1000000000) (hbase : base <= W.heap.size)
  (h : ∀ v' w',w'.ownsRow base 202 4 v' (n + 1) (xs ++ [c0,c1,c2,c3]) -> W.grownBy w' v.ownBlock -> (v'.ownBlock = v.ownBlock \/ ∀ k,v'.ownBlock = some k -> W.heap.size <= k) -> wpList Tryz.prog ops Q rest (a.put o.dst v') w') :
  wpList Tryz.prog ops Q (o :: rest) a (W.alloc (.cells #[c0,c1,c2,c3] 202)):=by
 obtain ⟨i0,hi,hz0,hz1,hz2⟩:=info_parts value_row
 exact append_new hgd s x 200 202 202 ho base i0 _ 4 56 Tryz.underlying200 hi hz0 hz1 hz2 rfl (by decide) (by decide) v n xs hs hown hx #[c0,c1,c2,c3] rfl hy hn hbase h
end
end Be
end Go.Proofs.YtegjjhjgfkcbhaaGreatDoor
