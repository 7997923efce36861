/- WMath WSrt WDist. Conditions: as each part says. -/
import Derived.Test.YtegjjhjgfkcbhaaGreatDoorQ10
set_option linter.unusedVariables false
set_option linter.unusedSimpArgs false
set_option maxRecDepth 100000
set_option maxHeartbeats 16000000
namespace Go.Proofs.YtegjjhjgfkcbhaaGreatDoor
section
def okV (l : List Int) : Bool:=decide (1 <= l.length) && decide (l.length <= 16) && l.all fun x=>decide (-2147483648 <= x) && decide (x <= 2147483647)
theorem okV_iff (l : List Int) : okV l = true ↔ 1 <= l.length /\ l.length <= 16 /\ ∀ x ∈ l,-2147483648 <= x /\ x <= 2147483647:=by
 unfold okV
 simp [and_assoc]
theorem getD_mem {l : List Int} {k : Nat} (h : k < l.length) : l.getD k 0 ∈ l:=by
 rw [List.getD_eq_getElem?_getD,List.getElem?_eq_getElem h]
 exact List.getElem_mem h
theorem okV_at {l : List Int} (h : okV l = true) {k : Nat} (hk : k < l.length) : -2147483648 <= l.getD k 0 /\ l.getD k 0 <= 2147483647:=((okV_iff l).1 h).2.2 _ (getD_mem hk)
theorem okV_no {l : List Int} {k : Nat} (hk : k < l.length) (h : l.getD k 0 < -2147483648 \/ 2147483647 < l.getD k 0) : okV l = false:=by
 rw [Bool.eq_false_iff]
 intro e
 have:=okV_at e hk
 omega
def goodTo (l : List Int) (k : Nat) : Prop:=∀ x ∈ l.take k,-2147483648 <= x /\ x <= 2147483647
theorem goodTo_zero (l : List Int) : goodTo l 0:=by intro x hx;simp at hx
theorem take_snoc (l : List Int) (k : Nat) (hk : k < l.length) : l.take (k + 1) = l.take k ++ [l.getD k 0]:=by
 rw [List.take_succ_eq_append_getElem hk,List.getD_eq_getElem?_getD,List.getElem?_eq_getElem hk]
 rfl
theorem goodTo_succ {l : List Int} {k : Nat} (hk : k < l.length) (h : goodTo l k) (h1 : ¬ l.getD k 0 < -2147483648) (h2 : ¬ 2147483647 < l.getD k 0) : goodTo l (k + 1):=by
 intro x hx
 rw [take_snoc l k hk] at hx
 rcases List.mem_append.1 hx with hx | hx
 ·exact h x hx
 ·simp only [List.mem_singleton] at hx
  subst hx
  omega
theorem goodTo_all {l : List Int} (h : goodTo l l.length) (h1 : 1 <= l.length) (h2 : l.length <= 16) : okV l = true:=by
 rw [okV_iff]
 unfold goodTo at h
 rw [List.take_length] at h
 exact ⟨h1,h2,h⟩
def ck (l : List Int) (dim : Int) : Int:=if okV l = true /\ (l.length : Int) = dim then 0 else 50
theorem ck_zero (l : List Int) (dim : Int) : ck l dim = 0 ↔ okV l = true /\ (l.length : Int) = dim:=by unfold ck;split <;> simp_all
theorem ck_or (l : List Int) (dim : Int) : ck l dim = 0 \/ ck l dim = 50:=by unfold ck;split <;> simp
def gap (x y : Int) : Int:=if x < y then y - x else x - y
theorem gap_nonneg (x y : Int) : 0 <= gap x y:=by unfold gap;split <;> omega
theorem gap_comm (x y : Int) : gap x y = gap y x:=by unfold gap;split <;> split <;> omega
theorem gap_tri (x y z : Int) : gap x z <= gap x y + gap y z:=by unfold gap;repeat' split <;> try omega
theorem gap_le {x y : Int} (hx : -2147483648 <= x /\ x <= 2147483647) (hy : -2147483648 <= y /\ y <= 2147483647) : gap x y <= 4294967295:=by unfold gap;split <;> omega
def far : List Int -> List Int -> Int
 | x :: xs,y :: ys=>gap x y + far xs ys
 | _,_=>0
theorem far_nil (l : List Int) : far [] l = 0:=by unfold far;rfl
theorem far_snoc : ∀ (a b : List Int) (x y : Int),a.length = b.length -> far (a ++ [x]) (b ++ [y]) = far a b + gap x y
 | [],[],x,y,_=>by simp [far]
 | u :: us,v :: vs,x,y,h=>by
  simp only [List.cons_append,far]
  rw [far_snoc us vs x y (by simpa using h)]
  omega
 | [],v :: vs,x,y,h=>by simp at h
 | u :: us,[],x,y,h=>by simp at h
theorem far_nonneg : ∀ (a b : List Int),0 <= far a b
 | [],b=>by rw [far_nil];omega
 | x :: xs,[]=>by simp [far]
 | x :: xs,y :: ys=>by simp only [far];have:=gap_nonneg x y;have:=far_nonneg xs ys;omega
theorem far_comm : ∀ (a b : List Int),far a b = far b a
 | [],b=>by cases b <;> simp [far]
 | x :: xs,[]=>by simp [far]
 | x :: xs,y :: ys=>by simp only [far];rw [gap_comm,far_comm xs ys]
theorem far_tri : ∀ (a b c : List Int),a.length = b.length -> b.length = c.length -> far a c <= far a b + far b c
 | [],b,c,_,_=>by have:=far_nonneg [] b;have:=far_nonneg b c;rw [far_nil];omega
 | x :: xs,y :: ys,z :: zs,h,k=>by
  simp only [far]
  have:=gap_tri x y z
  have:=far_tri xs ys zs (by simpa using h) (by simpa using k)
  omega
 | x :: xs,[],c,h,_=>by simp at h
 | x :: xs,y :: ys,[],_,k=>by simp at k
def farTo (a b : List Int) (k : Nat) : Int:=far (a.take k) (b.take k)
theorem farTo_zero (a b : List Int) : farTo a b 0 = 0:=by simp [farTo,far]
theorem farTo_succ {a b : List Int} {k : Nat} (ha : k < a.length) (hb : k < b.length) : farTo a b (k + 1) = farTo a b k + gap (a.getD k 0) (b.getD k 0):=by
 unfold farTo
 rw [take_snoc a k ha,take_snoc b k hb,far_snoc _ _ _ _ (by simp;omega)]
theorem farTo_all {a b : List Int} {n : Nat} (ha : a.length = n) (hb : b.length = n) : farTo a b n = far a b:=by
 unfold farTo
 rw [List.take_of_length_le (by omega),List.take_of_length_le (by omega)]
theorem farTo_le {a b : List Int} (ha : okV a = true) (hb : okV b = true) : ∀ {k : Nat},k <= a.length -> k <= b.length -> 0 <= farTo a b k /\ farTo a b k <= 4294967295 * (k : Int)
 | 0,_,_=>by rw [farTo_zero];omega
 | k + 1,h1,h2=>by
  rw [farTo_succ (by omega) (by omega)]
  have:=farTo_le ha hb (k:=k) (by omega) (by omega)
  have:=gap_nonneg (a.getD k 0) (b.getD k 0)
  have:=gap_le (okV_at ha (k:=k) (by omega)) (okV_at hb (k:=k) (by omega))
  omega
theorem far_le {a b : List Int} (ha : okV a = true) (hb : okV b = true) (h : a.length = b.length) : far a b <= 68719476720:=by
 have:=(farTo_le ha hb (k:=a.length) (by omega) (by omega)).2
 rw [farTo_all rfl h.symm] at this
 have:=((okV_iff a).1 ha).2.1
 omega
def dstR (a b : List Int) : Int × Int:=if okV a = true /\ okV b = true /\ b.length = a.length then (far a b,0) else (0,50)
theorem dstR_no {a b : List Int} (h : ¬ (okV a = true /\ okV b = true /\ b.length = a.length)) : dstR a b = (0,50):=by unfold dstR;rw [if_neg h]
theorem dstR_yes {a b : List Int} (h : okV a = true /\ okV b = true /\ b.length = a.length) : dstR a b = (far a b,0):=by unfold dstR;rw [if_pos h]
end
section
open Go Go.RowKit
def insH (h : Hit) : List Hit -> List Hit
 | []=>[h]
 | x :: r=>if hlt h x = true then h :: x :: r else x :: insH h r
def srtH : List Hit -> List Hit
 | []=>[]
 | x :: r=>insH x (srtH r)
theorem insH_comm (a b : Hit) : ∀ l,insH a (insH b l) = insH b (insH a l)
 | []=>by
  unfold insH
  by_cases h : hlt a b = true
  ·have h2:=hlt_asymm h
   simp [insH,h,h2]
  ·have h' : hlt a b = false:=by simpa using h
   by_cases k : hlt b a = true
   ·simp [insH,h',k]
   ·have k' : hlt b a = false:=by simpa using k
    have e:=hlt_total h' k'
    subst e
    rfl
 | x :: r=>by
  by_cases ha : hlt a x = true <;> by_cases hb : hlt b x = true
  ·by_cases h : hlt a b = true
   ·have h2:=hlt_asymm h
    simp [insH,ha,hb,h,h2]
   ·have h' : hlt a b = false:=by simpa using h
    by_cases k : hlt b a = true
    ·simp [insH,ha,hb,h',k]
    ·have k' : hlt b a = false:=by simpa using k
     have e:=hlt_total h' k'
     subst e
     rfl
  ·have hba : hlt b a = false:=by
    rw [Bool.eq_false_iff]
    intro h
    exact hb (hlt_trans h ha)
   simp [insH,ha,hb,hba]
  ·have hab : hlt a b = false:=by
    rw [Bool.eq_false_iff]
    intro h
    exact ha (hlt_trans h hb)
   simp [insH,ha,hb,hab]
  ·simp [insH,ha,hb,insH_comm a b r]
theorem srtH_perm {l l' : List Hit} (h : l.Perm l') : srtH l = srtH l':=by
 induction h with
 | nil=>rfl
 | cons x _ ih=>simp [srtH,ih]
 | swap x y l=>exact insH_comm y x (srtH l)
 | trans _ _ ih1 ih2=>rw [ih1,ih2]
theorem insH_take (h : Hit) : ∀ (l : List Hit) (k : Nat),(insH h l).take k = (insH h (l.take k)).take k
 | [],k=>by simp
 | x :: r,0=>by simp
 | x :: r,k + 1=>by
  rw [List.take_succ_cons]
  unfold insH
  split
  ·rw [List.take_succ_cons,List.take_succ_cons]
   cases k with
   | zero=>simp
   | succ k=>simp [List.take_take]
  ·rw [List.take_succ_cons,List.take_succ_cons,insH_take h r k]
theorem insH_perm (h : Hit) : ∀ l : List Hit,(insH h l).Perm (h :: l)
 | []=>List.Perm.refl _
 | x :: r=>by
  unfold insH
  split
  ·exact List.Perm.refl _
  ·exact ((insH_perm h r).cons x).trans (List.Perm.swap ..)
theorem insH_len (h : Hit) (l : List Hit) : (insH h l).length = l.length + 1:=by rw [(insH_perm h l).length_eq];rfl
theorem srtH_self : ∀ l : List Hit,(srtH l).Perm l
 | []=>List.Perm.refl _
 | x :: r=>(insH_perm x _).trans ((srtH_self r).cons x)
def InOrd (l : List Hit) : Prop:=l.Pairwise (fun a b=>hlt b a = false)
theorem insH_ord (h : Hit) : ∀ l : List Hit,InOrd l -> InOrd (insH h l)
 | [],_=>List.pairwise_singleton _ _
 | x :: r,k=>by
  obtain ⟨k1,k2⟩:=List.pairwise_cons.1 k
  unfold insH
  split
  ·rename_i hx
   refine List.pairwise_cons.2 ⟨fun y hy=>?_,k⟩
   rcases List.mem_cons.1 hy with rfl | hy
   ·exact hlt_asymm hx
   ·rw [Bool.eq_false_iff]
    intro hyh
    have:=k1 y hy
    rw [hlt_trans hyh hx] at this
    cases this
  ·rename_i hx
   refine List.pairwise_cons.2 ⟨fun y hy=>?_,insH_ord h r k2⟩
   rcases List.mem_cons.1 ((insH_perm h r).mem_iff.1 hy) with rfl | hy
   ·simpa using hx
   ·exact k1 y hy
theorem srtH_ord : ∀ l : List Hit,InOrd (srtH l)
 | []=>List.Pairwise.nil
 | x :: r=>insH_ord x _ (srtH_ord r)
theorem insH_end {h : Hit} : ∀ {l : List Hit},(∀ x ∈ l,hlt h x = false) -> insH h l = l ++ [h]
 | [],_=>rfl
 | x :: r,k=>by
  unfold insH
  rw [if_neg (by rw [k x (List.mem_cons_self ..)];simp),insH_end (fun y hy=>k y (List.mem_cons_of_mem _ hy))]
  rfl
theorem insH_at {h : Hit} : ∀ {l : List Hit} {p : Nat},p <= l.length -> (∀ t,t < p -> hlt h (l.getD t (0,0)) = false) -> (p < l.length -> hlt h (l.getD p (0,0)) = true) -> insH h l = l.take p ++ h :: l.drop p
 | [],p,hp,_,_=>by simp [insH]
 | x :: r,0,_,_,h1=>by
  have:=h1 (by simp)
  unfold insH
  rw [if_pos (by simpa using this)]
  rfl
 | x :: r,p + 1,hp,h0,h1=>by
  have:=h0 0 (by omega)
  unfold insH
  rw [if_neg (by simp only [List.getD_cons_zero] at this;rw [this];simp),insH_at (p:=p) (by simpa using hp) (fun t ht=>by simpa using h0 (t + 1) (by omega)) (fun hl=>by simpa using h1 (by simpa using hl))]
  rfl
def bst (k : Nat) (S : List Hit) : List Hit:=(srtH S).take k
theorem bst_len (k : Nat) (S : List Hit) : (bst k S).length <= k:=by unfold bst;rw [List.length_take];omega
theorem bst_nil (k : Nat) : bst k [] = []:=by simp [bst,srtH]
theorem bst_ord (k : Nat) (S : List Hit) : InOrd (bst k S):=(srtH_ord S).take
theorem bst_cons (k : Nat) (h : Hit) (S : List Hit) : bst k (h :: S) = (insH h (bst k S)).take k:=insH_take h (srtH S) k
theorem bst_perm {k : Nat} {S S' : List Hit} (p : S.Perm S') : bst k S = bst k S':=by unfold bst;rw [srtH_perm p]
theorem bst_mem {k : Nat} {S : List Hit} {x : Hit} (h : x ∈ bst k S) : x ∈ S:=(srtH_self S).mem_iff.1 (List.mem_of_mem_take h)
def nearH (v : List Int) (lim : Int) (E : List (Int × List Int)) : List Hit:=(E.map fun p=>(p.1,far p.2 v)).filter fun h=>decide (h.2 <= lim)
theorem nearH_nil (v : List Int) (lim : Int) : nearH v lim [] = []:=rfl
theorem nearH_append (v : List Int) (lim : Int) (a b : List (Int × List Int)) : nearH v lim (a ++ b) = nearH v lim a ++ nearH v lim b:=by simp [nearH]
theorem nearH_cons (v : List Int) (lim : Int) (p : Int × List Int) (b : List (Int × List Int)) : nearH v lim (p :: b) = (if far p.2 v <= lim then [(p.1,far p.2 v)] else []) ++ nearH v lim b:=by
 unfold nearH
 rw [List.map_cons,List.filter_cons]
 by_cases h : far p.2 v <= lim <;> simp [h]
theorem nearH_perm {v : List Int} {lim : Int} {a b : List (Int × List Int)} (p : a.Perm b) : (nearH v lim a).Perm (nearH v lim b):=(p.map _).filter _
def reachOf (k : Nat) (lim : Int) (H : List Hit) : Int:=if H.length < k then lim else (H.getD (k - 1) (0,0)).2
theorem reach_no {k : Nat} {lim : Int} {S : List Hit} (hk : 0 < k) (hS : ∀ x ∈ S,x.2 <= lim) {h : Hit} (hr : reachOf k lim (bst k S) < h.2) :
  (if h.2 <= lim then bst k (h :: S) else bst k S) = bst k S:=by
 unfold reachOf at hr
 by_cases hl : (bst k S).length < k
 ·rw [if_pos hl] at hr
  rw [if_neg (by omega)]
 ·rw [if_neg hl] at hr
  split
  ·rw [bst_cons]
   have hlen : (bst k S).length = k:=by have:=bst_len k S;omega
   rw [insH_end,List.take_left' hlen]
   intro x hx
   rw [Bool.eq_false_iff,Ne,hlt_iff]
   have hxl : x.2 <= ((bst k S).getD (k - 1) (0,0)).2:=by
    obtain ⟨i,hi,rfl⟩:=List.mem_iff_getElem.1 hx
    rw [List.getD_eq_getElem?_getD,List.getElem?_eq_getElem (by omega),Option.getD_some]
    rcases Nat.lt_or_ge i (k - 1) with hik | hik
    ·have:=List.pairwise_iff_getElem.1 (bst_ord k S) i (k - 1) hi (by omega) hik
     rw [Bool.eq_false_iff,Ne,hlt_iff] at this
     omega
    ·have e : i = k - 1:=by omega
     subst e
     exact Int.le_refl _
   omega
  ·rfl
theorem reach_yes {k : Nat} {lim : Int} {S : List Hit} (hk : 0 < k) (hS : ∀ x ∈ S,x.2 <= lim) {h : Hit} (hr : ¬ reachOf k lim (bst k S) < h.2) : h.2 <= lim:=by
 unfold reachOf at hr
 split at hr
 ·omega
 ·rename_i hl
  have hlen : (bst k S).length = k:=by have:=bst_len k S;omega
  have hm : (bst k S).getD (k - 1) (0,0) ∈ S:=by
   refine bst_mem (k:=k) ?_
   rw [List.getD_eq_getElem?_getD,List.getElem?_eq_getElem (by omega),Option.getD_some]
   exact List.getElem_mem _
  have:=hS _ hm
  omega
end
section
open Go Go.RowKit
def Says (v : Value) (w : World) (e : Ending) (w' : World) : Prop:=e = .returned v /\ ∃ q,w' = w.drewN q
theorem ck_no {l : List Int} {dim : Int} (h : ¬ (okV l = true /\ (l.length : Int) = dim)) : ck l dim = 50:=by unfold ck;rw [if_neg h]
theorem ck_yes {l : List Int} {dim : Int} (h : okV l = true /\ (l.length : Int) = dim) : ck l dim = 0:=by unfold ck;rw [if_pos h]
theorem wret_int {a b : Int} (h : a = b) : (Ending.returned (.int .i64 a)) = .returned (.int .i64 b):=by rw [h]
theorem check_any (A : Option Addr) (n c B : Nat) (l : List Int) (dim : Int) (w : World) (hx : Reads w B 1 A n (ints l)) (hm : n <= maxLen) : Calls Tryz.prog 104 #[.slice A n c,.int .i64 dim] w (Says (.int .i64 (ck l dim)) w):=by
 have lx:=hx.len
 have lx1 : n <= l.length:=by omega
 have lx2 : l.length <= n:=by omega
 unfold maxLen at hm
 have LX:=Lib.hid lx
 clear lx
 by_cases h1 : n < 1
 ·have hz : (n : Int) < 1:=by omega
  have e:=ck_no (l:=l) (dim:=dim) (by rw [okV_iff];omega)
  have HE:=Lib.hid e
  clear e
  go_enter Tryz.func104,Tryz.ntmps104
  go_wp2
  go_ret
  exact ⟨wret_int HE.out.symm,0,rfl⟩
 ·by_cases h2 : 16 < n
  ·have hz : (16 : Int) < n:=by omega
   have e:=ck_no (l:=l) (dim:=dim) (by rw [okV_iff];omega)
   have HE:=Lib.hid e
   clear e
   have hz1 : ¬ (n : Int) < 1:=by omega
   go_enter Tryz.func104,Tryz.ntmps104
   go_wp2
   go_ret
   exact ⟨wret_int HE.out.symm,0,rfl⟩
  ·have hz1 : ¬ (n : Int) < 1:=by omega
   have hz2 : ¬ (16 : Int) < n:=by omega
   by_cases h3 : (n : Int) = dim
   ·subst h3
    have hb : ((n : Int) != (n : Int)) = false:=by simp
    go_enter Tryz.func104,Tryz.ntmps104
    go_wp2
    go_loopw [23] (fun i wr=>∃ k q : Nat,k <= n /\ i = .int .i64 k /\ wr = w.drewN q /\ Hid (goodTo l k)) (fun i _=>n - (intOf i).toNat)
    case atStart=>exact ⟨0,0,Nat.zero_le _,rfl,rfl,Lib.hid (goodTo_zero l)⟩
    case round =>
     obtain ⟨k,q,hk,rfl,rfl,HT⟩:=hrel
     by_cases hlt : k < n
     ·obtain ⟨ad,rfl,_,hc⟩:=hx.int_at hlt
      have hltz : (k : Int) < (n : Int):=by omega
      have hbad:=okV_no (l:=l) (k:=k) (by omega)
      have hgood:=goodTo_succ (l:=l) (k:=k) (by omega) HT.out
      have HB:=Lib.hid hbad
      have HG:=Lib.hid hgood
      clear hbad hgood
      generalize l.getD k 0 = X at *
      by_cases hx1 : X < -2147483648
      ·have e:=ck_no (l:=l) (dim:=(n : Int)) (fun h=>by have:=HB.out (.inl hx1);rw [this] at h;cases h.1)
       have HE:=Lib.hid e
       clear e
       go_wp2
       go_ret
       exact ⟨wret_int HE.out.symm,_,rfl⟩
      ·by_cases hx2 : 2147483647 < X
       ·have e:=ck_no (l:=l) (dim:=(n : Int)) (fun h=>by have:=HB.out (.inr hx2);rw [this] at h;cases h.1)
        have HE:=Lib.hid e
        clear e
        go_wp2
        go_ret
        exact ⟨wret_int HE.out.symm,_,rfl⟩
       ·go_wp2
        go_roundw
        case rel=>exact ⟨k + 1,_,by omega,by go_num,rfl,Lib.hid (HG.out hx1 hx2)⟩
        case measure=>simp [intOf];omega
     ·have e:=ck_yes (l:=l) (dim:=(n : Int)) ⟨goodTo_all (by rw [<- LX.out,show n = k by omega];exact HT.out) (by omega) (by omega),by rw [<- LX.out]⟩
      have HE:=Lib.hid e
      clear e
      go_wp2
      go_ret
      exact ⟨wret_int HE.out.symm,_,rfl⟩
   ·have e:=ck_no (l:=l) (dim:=dim) (fun h=>h3 (by rw [<- h.2,<- LX.out]))
    have hb : ((n : Int) != dim) = true:=by rw [bne_iff_ne];exact h3
    have HE:=Lib.hid e
    clear e
    go_enter Tryz.func104,Tryz.ntmps104
    go_wp2
    go_ret
    exact ⟨wret_int HE.out.symm,0,rfl⟩
theorem drewN_two (w : World) (p q : Nat) : (w.drewN p).drewN q = w.drewN (p + q):=World.drewN_drewN ..
theorem is_any (A : Option Addr) (n c B : Nat) (l : List Int) (w : World) (hx : Reads w B 1 A n (ints l)) (hm : n <= maxLen) : Calls Tryz.prog 152 #[.slice A n c] w (Says (.bool (okV l)) w):=by
 have lx:=hx.len
 have lx1 : n <= l.length:=by omega
 have lx2 : l.length <= n:=by omega
 unfold maxLen at hm
 have LX:=Lib.hid lx
 clear lx
 go_enter Tryz.func152,Tryz.ntmps152
 go_wp2
 go_loopw [3] (fun i wr=>∃ k q : Nat,k <= n /\ i = .int .i64 k /\ wr = w.drewN q /\ Hid (goodTo l k)) (fun i _=>n - (intOf i).toNat)
 case atStart=>exact ⟨0,0,Nat.zero_le _,rfl,rfl,Lib.hid (goodTo_zero l)⟩
 case round =>
  obtain ⟨k,q,hk,rfl,rfl,HT⟩:=hrel
  by_cases hlt : k < n
  ·obtain ⟨ad,rfl,_,hc⟩:=hx.int_at hlt
   have hltz : (k : Int) < (n : Int):=by omega
   have hbad:=okV_no (l:=l) (k:=k) (by omega)
   have hgood:=goodTo_succ (l:=l) (k:=k) (by omega) HT.out
   have HB:=Lib.hid hbad
   have HG:=Lib.hid hgood
   clear hbad hgood
   generalize l.getD k 0 = X at *
   by_cases hx1 : X < -2147483648
   ·have HE:=Lib.hid (HB.out (.inl hx1))
    go_wp2
    go_ret
    exact ⟨wret_bool HE.out.symm,_,rfl⟩
   ·by_cases hx2 : 2147483647 < X
    ·have HE:=Lib.hid (HB.out (.inr hx2))
     go_wp2
     go_ret
     exact ⟨wret_bool HE.out.symm,_,rfl⟩
    ·go_wp2
     go_roundw
     case rel=>exact ⟨k + 1,_,by omega,by go_num,rfl,Lib.hid (HG.out hx1 hx2)⟩
     case measure=>simp [intOf];omega
  ·have hkn : k = n:=by omega
   have HTT:=Lib.hid (show goodTo l l.length by rw [<- LX.out,<- hkn];exact HT.out)
   by_cases h1 : n < 1
   ·have e : okV l = false:=by rw [Bool.eq_false_iff,Ne,okV_iff];omega
    have HE:=Lib.hid e
    clear e HT
    have hz : ¬ (1 : Int) <= n:=by omega
    go_wp2
    go_ret
    exact ⟨wret_bool HE.out.symm,_,rfl⟩
   ·have hz : (1 : Int) <= n:=by omega
    by_cases h2 : n <= 16
    ·have HE:=Lib.hid (goodTo_all HTT.out (by omega) (by omega))
     have hz2 : (n : Int) <= 16:=by omega
     clear HT
     go_wp2
     go_ret
     exact ⟨wret_bool (by simpa using HE.out.symm),_,rfl⟩
    ·have e : okV l = false:=by rw [Bool.eq_false_iff,Ne,okV_iff];omega
     have HE:=Lib.hid e
     clear e HT
     have hz2 : ¬ (n : Int) <= 16:=by omega
     go_wp2
     go_ret
     exact ⟨wret_bool (by simpa using HE.out.symm),_,rfl⟩
theorem rcheck_any (A : Option Addr) (n c B : Nat) (l : List Int) (dim : Int) (w : World) (hx : Reads w B 1 A n (ints l)) (hm : n <= maxLen) : Calls Tryz.prog 112 #[.slice A n c,.int .i64 dim] w (Says (.int .i64 (ck l dim)) w):=by
 have hL:=hx.len
 have LX:=Lib.hid hL
 have HC:=Lib.hid (is_any A n c B l w hx hm)
 clear hL
 cases hO : okV l with
 | false =>
  have HE:=Lib.hid (ck_no (l:=l) (dim:=dim) (by rw [hO];simp))
  rw [hO] at HC
  clear hO
  go_enter Tryz.func112,Tryz.ntmps112
  go_wp2_with fail
  refine HC.out.mono ?_
  rintro e w1 ⟨rfl,q,rfl⟩
  go_wp2_with fail
  go_ret
  exact ⟨wret_int HE.out.symm,_,rfl⟩
 | true =>
  rw [hO] at HC
  by_cases h3 : (n : Int) = dim
  ·have HE:=Lib.hid (ck_yes (l:=l) (dim:=dim) ⟨hO,by rw [<- LX.out];exact h3⟩)
   have hb : ((n : Int) != dim) = false:=by rw [bne_eq_false_iff_eq];exact h3
   clear hO h3
   go_enter Tryz.func112,Tryz.ntmps112
   go_wp2_with fail
   refine HC.out.mono ?_
   rintro e w1 ⟨rfl,q,rfl⟩
   go_wp2_with fail
   go_ret
   exact ⟨wret_int HE.out.symm,_,rfl⟩
  ·have HE:=Lib.hid (ck_no (l:=l) (dim:=dim) (fun h=>h3 (by rw [<- h.2,<- LX.out])))
   have hb : ((n : Int) != dim) = true:=by rw [bne_iff_ne];exact h3
   clear hO h3
   go_enter Tryz.func112,Tryz.ntmps112
   go_wp2_with fail
   refine HC.out.mono ?_
   rintro e w1 ⟨rfl,q,rfl⟩
   go_wp2_with fail
   go_ret
   exact ⟨wret_int HE.out.symm,_,rfl⟩
def two (r : Int × Int) : Value:=.tuple #[.int .i64 r.1,.int .i64 r.2]
theorem ret_two {a b : Int} {r : Int × Int} (h : r = (a,b)) : (Ending.returned (.tuple #[.int .i64 a,.int .i64 b])) = .returned (two r):=by rw [h];rfl
theorem dist_any (A A' : Option Addr) (n m c c' B B' : Nat) (a b : List Int) (w : World) (hx : Reads w B 1 A n (ints a)) (hy : Reads w B' 1 A' m (ints b)) (hm : n <= maxLen) (hm' : m <= maxLen) :
  Calls Tryz.prog 151 #[.slice A n c,.slice A' m c'] w (Says (two (dstR a b)) w):=by
 have lx:=hx.len
 have ly:=hy.len
 have hc1:=check_any A n c B a n w hx hm
 have hc2:=fun q=>check_any A' m c' B' b n (w.drewN q) (hy.drewN q) hm'
 have HC1:=Lib.hid hc1
 have HC2:=Lib.hid hc2
 clear hc1 hc2
 by_cases h1 : okV a = true
 ·by_cases h2 : okV b = true /\ b.length = a.length
  ·rw [ck_yes ⟨h1,by rw [lx]⟩] at HC1
   rw [ck_yes ⟨h2.1,by rw [lx,h2.2]⟩] at HC2
   have HE:=Lib.hid (dstR_yes ⟨h1,h2.1,h2.2⟩)
   have lx1 : n <= a.length:=by omega
   have lx2 : n <= b.length:=by omega
   have h16:=((okV_iff a).1 h1).2.1
   have lx3 : n <= 16:=by omega
   have hmn : m = n:=by omega
   subst hmn
   have HF:=Lib.hid (farTo_all (a:=a) (b:=b) lx.symm ly.symm)
   have HS:=Lib.hid (fun k (h : k < m)=>farTo_succ (a:=a) (b:=b) (k:=k) (by omega) (by omega))
   have HL:=Lib.hid (fun k (h : k <= m)=>farTo_le h1 h2.1 (k:=k) (by omega) (by omega))
   have HO1:=Lib.hid (fun k (h : k < m)=>okV_at h1 (k:=k) (by omega))
   have HO2:=Lib.hid (fun k (h : k < m)=>okV_at h2.1 (k:=k) (by omega))
   clear h1 h2 lx ly h16 hm hm'
   go_enter Tryz.func151,Tryz.ntmps151
   go_wp2_with fail
   refine HC1.out.mono ?_
   rintro e w1 ⟨rfl,q1,rfl⟩
   go_wp2_with fail
   refine (HC2.out q1).mono ?_
   rintro e w1 ⟨rfl,q2,rfl⟩
   rw [drewN_two]
   go_wp2_with fail
   go_loopw [6,22] (fun s i wr=>∃ k q : Nat,k <= m /\ i = .int .i64 k /\ s = .int .i64 (farTo a b k) /\ wr = w.drewN q) (fun _ i _=>m - (intOf i).toNat)
   case atStart=>exact ⟨0,_,Nat.zero_le _,rfl,by rw [farTo_zero],rfl⟩
   case round =>
    obtain ⟨k,q,hk,rfl,rfl,rfl⟩:=hrel
    by_cases hlt : k < m
    ·obtain ⟨ad,rfl,_,hc⟩:=hx.int_at hlt
     obtain ⟨ad',rfl,_,hc'⟩:=hy.int_at hlt
     have hltz : (k : Int) < (m : Int):=by omega
     have hS:=HS.out k hlt
     have hl:=HL.out k hk
     have ho1:=HO1.out k hlt
     have ho2:=HO2.out k hlt
     have HSS:=Lib.hid hS
     clear hS
     generalize hX : a.getD k 0 = X at *
     generalize hY : b.getD k 0 = Y at *
     generalize hFk : farTo a b k = Z at *
     clear hX hY hFk
     have hg : gap X Y = if X < Y then Y - X else X - Y:=rfl
     have HG:=Lib.hid hg
     clear hg
     by_cases hXY : X < Y
     ·rw [if_pos hXY] at HG
      go_wp2
      go_quiet (fail)
      go_wp2
      go_roundw
      case rel=>exact ⟨k + 1,_,by omega,by go_num,by rw [HSS.out,HG.out] <;> go_num,rfl⟩
      case measure=>simp [intOf];omega
     ·rw [if_neg hXY] at HG
      go_wp2
      go_quiet (fail)
      go_wp2
      go_roundw
      case rel=>exact ⟨k + 1,_,by omega,by go_num,by rw [HSS.out,HG.out] <;> go_num,rfl⟩
      case measure=>simp [intOf];omega
    ·have hkn : k = m:=by omega
     subst hkn
     rw [HF.out]
     go_wp2
     go_ret2
     exact ⟨ret_two HE.out,_,rfl⟩
  ·have HE:=Lib.hid (dstR_no (a:=a) (b:=b) (fun h=>h2 h.2))
   rw [ck_yes ⟨h1,by rw [lx]⟩] at HC1
   rw [ck_no (fun h=>h2 ⟨h.1,by have:=h.2;omega⟩)] at HC2
   clear h1 h2 lx ly
   go_enter Tryz.func151,Tryz.ntmps151
   go_wp2_with fail
   refine HC1.out.mono ?_
   rintro e w1 ⟨rfl,q1,rfl⟩
   go_wp2_with fail
   refine (HC2.out q1).mono ?_
   rintro e w1 ⟨rfl,q2,rfl⟩
   rw [drewN_two]
   go_wp2_with fail
   go_ret2
   exact ⟨ret_two HE.out,_,rfl⟩
 ·have HE:=Lib.hid (dstR_no (a:=a) (b:=b) (fun h=>h1 h.1))
  rw [ck_no (fun h=>h1 h.1)] at HC1
  clear h1 lx ly
  go_enter Tryz.func151,Tryz.ntmps151
  go_wp2_with fail
  refine HC1.out.mono ?_
  rintro e w1 ⟨rfl,q1,rfl⟩
  go_wp2_with fail
  go_ret2
  exact ⟨ret_two HE.out,_,rfl⟩
theorem news_int (W : World) (l : List Int) (hl : l ≠ []) : Reads (W.alloc (.cells (ints l).toArray 3)) (W.heap.size + 1) 1 (some ⟨W.heap.size,0,none⟩) l.length (ints l):=by
 refine ⟨by rw [ints_len];omega,fun _=>⟨_,rfl,by simp,fun j u hj=>?_⟩⟩
 have:=news_cells W (ints l).toArray 3 j u (by simpa using hj)
 exact this
end
end Go.Proofs.YtegjjhjgfkcbhaaGreatDoor
