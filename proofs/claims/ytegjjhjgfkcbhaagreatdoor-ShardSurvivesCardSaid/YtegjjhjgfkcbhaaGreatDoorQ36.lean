/- BenM BenA BenB BenC BenW. Conditions: as each part says. -/
import Derived.Test.YtegjjhjgfkcbhaaGreatDoorQ19
set_option linter.unusedVariables false
set_option linter.unusedSimpArgs false
set_option maxRecDepth 100000
set_option maxHeartbeats 16000000
namespace Go.Proofs.YtegjjhjgfkcbhaaGreatDoor
section
open Go Go.RowKit
def isDig (c : UInt8) : Bool:=decide (48 <= c.toNat) && decide (c.toNat <= 57)
def dg (most : Nat) (stop : UInt8) (over : Int) : Bool -> Nat -> List UInt8 -> Except Int (Nat × Nat)
 | _,_,[]=>.error 21
 | first,m,c :: r =>
  if c = stop /\ first = false then .ok (m,1)
  else if isDig c = false \/ (first = false /\ m = 0) then .error 20
  else if most < 10 * m + (c.toNat - 48) then .error over
  else match dg most stop over false (10 * m + (c.toNat - 48)) r with
   | .error e=>.error e
   | .ok (n,k)=>.ok (n,k + 1)
theorem u8_ofNat {n : Nat} (h : n < 256) : (UInt8.ofNat n).toNat = n:=by simp [UInt8.toNat_ofNat'];omega
theorem isDig_of {d : Nat} (h : d < 10) : isDig (UInt8.ofNat (48 + d)) = true:=by
 simp only [isDig,u8_ofNat (show 48 + d < 256 by omega),Bool.and_eq_true,decide_eq_true_eq];omega
theorem isDig_iff {c : UInt8} : isDig c = true ↔ 48 <= c.toNat /\ c.toNat <= 57:=by simp [isDig]
theorem dec_small {n : Nat} (h : n < 10) : Lib.decDigits n = [UInt8.ofNat (48 + n)]:=by rw [Lib.decDigits,dif_pos h]
theorem dec_big {n : Nat} (h : ¬ n < 10) : Lib.decDigits n = Lib.decDigits (n / 10) ++ [UInt8.ofNat (48 + n % 10)]:=by rw [Lib.decDigits,dif_neg h]
theorem dec_snoc {m d : Nat} (hm : m ≠ 0) (hd : d < 10) : Lib.decDigits (10 * m + d) = Lib.decDigits m ++ [UInt8.ofNat (48 + d)]:=by
 rw [dec_big (by omega),show (10 * m + d) / 10 = m by omega,show (10 * m + d) % 10 = d by omega]
theorem dec_len (k : Nat) : ∀ n : Nat,n < 10 ^ k -> 1 <= k -> (Lib.decDigits n).length <= k:=by
 induction k with
 | zero=>intro n _ h;omega
 | succ k ih =>
  intro n hn _
  by_cases h : n < 10
  ·simp [dec_small h]
  ·rw [dec_big h]
   have hk : 1 <= k:=by
    rcases k with _ | k
    ·simp at hn;omega
    ·omega
   have:=ih (n / 10) (by rw [Nat.pow_succ] at hn;omega) hk
   simp;omega
theorem itoa_len (n : Int) (h0 : -9223372036854775808 <= n) (h1 : n <= 9223372036854775807) : (Lib.itoa n).length <= 20:=by
 unfold Lib.itoa
 split
 ·have:=dec_len 19 n.natAbs (by omega) (by omega)
  simp;omega
 ·have:=dec_len 19 n.toNat (by omega) (by omega)
  omega
theorem itoa_nat (n : Nat) : Lib.itoa (n : Int) = Lib.decDigits n:=by
 unfold Lib.itoa
 rw [if_neg (by omega)]
 rfl
def more {α : Type} (k : Nat) : Except Int (α × Nat) -> Except Int (α × Nat)
 | .error e=>.error e
 | .ok (n,j)=>.ok (n,j + k)
theorem more_zero {α : Type} (r : Except Int (α × Nat)) : more 0 r = r:=by rcases r with e | ⟨n,j⟩ <;> rfl
theorem more_more {α : Type} (a b : Nat) (r : Except Int (α × Nat)) : more a (more b r) = more (b + a) r:=by rcases r with e | ⟨n,j⟩ <;> simp [more,Nat.add_assoc]
theorem dg_step (most : Nat) (stop : UInt8) (over : Int) (first : Bool) (m : Nat) (d : Nat) (hd : d < 10) (hs : isDig stop = false) (hm : first = true \/ m ≠ 0) (hle : 10 * m + d <= most) (tail : List UInt8) :
  dg most stop over first m (UInt8.ofNat (48 + d) :: tail) = more 1 (dg most stop over false (10 * m + d) tail):=by
 have hdig:=isDig_of hd
 have hne : UInt8.ofNat (48 + d) ≠ stop:=by rintro rfl;rw [hdig] at hs;cases hs
 have hv : (UInt8.ofNat (48 + d)).toNat - 48 = d:=by rw [u8_ofNat (by omega)];omega
 generalize UInt8.ofNat (48 + d) = c at hdig hne hv
 rw [dg,if_neg (fun h=>hne h.1),if_neg (by rcases hm with h | h <;> simp [hdig,h]),hv,if_neg (by omega)]
 rcases dg most stop over false (10 * m + d) tail with e | ⟨n,k⟩ <;> rfl
theorem dg_dec (most : Nat) (stop : UInt8) (over : Int) (hs : isDig stop = false) : ∀ (n : Nat),n <= most -> ∀ tail,dg most stop over true 0 (Lib.decDigits n ++ tail) = more (Lib.decDigits n).length (dg most stop over false n tail):=by
 intro n
 induction n using Nat.strongRecOn with
 | _ n ih =>
  intro hn tail
  by_cases h : n < 10
  ·rw [dec_small h,List.singleton_append,dg_step most stop over true 0 n h hs (.inl rfl) (by omega)]
   simp
  ·rw [dec_big h,List.append_assoc,List.singleton_append,ih (n / 10) (by omega) (by omega),dg_step most stop over false (n / 10) (n % 10) (by omega) hs (.inr (by omega)) (by omega),more_more]
   rw [show 10 * (n / 10) + n % 10 = n by omega]
   simp [Nat.add_comm]
theorem dg_put (most : Nat) (stop : UInt8) (over : Int) (hs : isDig stop = false) (n : Nat) (hn : n <= most) (rest : List UInt8) : dg most stop over true 0 (Lib.decDigits n ++ stop :: rest) = .ok (n,(Lib.decDigits n).length + 1):=by
 rw [dg_dec most stop over hs n hn,dg,if_pos ⟨rfl,rfl⟩]
 simp [more,Nat.add_comm]
theorem dec_head (n : Nat) : ∃ c r,Lib.decDigits n = c :: r /\ isDig c = true /\ (c = 48 -> n = 0):=by
 induction n using Nat.strongRecOn with
 | _ n ih =>
  by_cases h : n < 10
  ·refine ⟨_,[],dec_small h,isDig_of h,fun e=>?_⟩
   have:=congrArg UInt8.toNat e
   rw [u8_ofNat (by omega)] at this
   simp at this;omega
  ·obtain ⟨c,r,e,hd,h0⟩:=ih (n / 10) (by omega)
   refine ⟨c,r ++ [UInt8.ofNat (48 + n % 10)],by rw [dec_big h,e];rfl,hd,fun e=>?_⟩
   have:=h0 e
   omega
theorem grown_drewN {a w : World} {row : Option Nat} (h : a.grownBy w row) (n : Nat) : a.grownBy (w.drewN n) row:=⟨h.os,h.tape,h.output,h.size,h.block⟩
theorem grown_setCell {a w : World} {R : Nat} (h : a.grownBy w (some R)) (p : Addr) (hp : p.block = R) (u : Value) : a.grownBy (w.setCell p u) (some R) :=
 ⟨h.os,h.tape,h.output,by simpa using h.size,fun i hi hne=>by
  rw [Below.heap_setCell w p u i (by rintro rfl;exact hne (by rw [hp]))]
  exact h.block i hi hne⟩
end
section
open Go Go.RowKit
theorem ret_bool {a b : Bool} (h : a = b) : Ending.returned (.bool a) = .returned (.bool b):=by rw [h]
def IsRd (w : World) (R : Nat) (s : ByteArray) (p d : Nat) : Prop:=w.heap[R]? = some (.cells #[.string s,.int .i64 (p : Int),.int .i64 (d : Int)] 282 (0,0))
section
variable {w w' : World} {R : Nat} {s : ByteArray} {p d : Nat}
theorem IsRd.lt (h : IsRd w R s p d) : R < w.heap.size:=(Array.getElem?_eq_some_iff.1 h).1
theorem IsRd.c0 (h : IsRd w R s p d) : w.cell? ⟨R,0,none⟩ = some (.string s):=by unfold IsRd at h;simp [World.cell?,h]
theorem IsRd.c1 (h : IsRd w R s p d) : w.cell? ⟨R,1,none⟩ = some (.int .i64 (p : Int)):=by unfold IsRd at h;simp [World.cell?,h]
theorem IsRd.c2 (h : IsRd w R s p d) : w.cell? ⟨R,2,none⟩ = some (.int .i64 (d : Int)):=by unfold IsRd at h;simp [World.cell?,h]
theorem IsRd.f (h : IsRd w R s p d) (j : Nat) : w.frozen? ⟨R,j,none⟩ = false:=by unfold IsRd at h;simp [World.frozen?,h]
theorem IsRd.drewN (h : IsRd w R s p d) (n : Nat) : IsRd (w.drewN n) R s p d:=h
theorem IsRd.drew (h : IsRd w R s p d) : IsRd w.drew R s p d:=h
theorem IsRd.set1 (h : IsRd w R s p d) (p' : Nat) : IsRd (w.setCell ⟨R,1,none⟩ (.int .i64 (p' : Int))) R s p' d:=by
 have hl:=h.lt
 unfold IsRd at h ⊢
 simp only [World.setCell,Array.getElem?_modify,h]
 simp
theorem IsRd.sc1 (h : IsRd w R s p d) (q : Nat) (v : Value) : ((w.drewN q).setCell ⟨R,1,none⟩ v).cell? ⟨R,1,none⟩ = some v:=World.cell?_setCell_same _ _ _ (h.drewN q).c1
end
def Quiet (v : Value) (w : World) (e : Ending) (w' : World) : Prop:=e = .returned v /\ ∃ q,w' = w.drewN q
theorem more_any (R : Nat) (s : ByteArray) (p d : Nat) (w : World) (h : IsRd w R s p d) : Calls Tryz.prog 223 #[.pointer (some ⟨R,0,none⟩)] w (Quiet (.bool (decide (p < s.size))) w):=by
 have h0:=h.c0
 have h1:=h.c1
 go_enter Tryz.func223,Tryz.ntmps223
 go_wp2
 go_quiet (fail)
 go_wp2
 go_ret
 exact ⟨ret_bool (by simp),_,rfl⟩
theorem more_yes (R : Nat) (s : ByteArray) (p d : Nat) (w : World) (h : IsRd w R s p d) (hp : p < s.size) : Calls Tryz.prog 223 #[.pointer (some ⟨R,0,none⟩)] w (Quiet (.bool true) w):=by
 have:=more_any R s p d w h
 rwa [decide_eq_true hp] at this
theorem more_no (R : Nat) (s : ByteArray) (p d : Nat) (w : World) (h : IsRd w R s p d) (hp : ¬ p < s.size) : Calls Tryz.prog 223 #[.pointer (some ⟨R,0,none⟩)] w (Quiet (.bool false) w):=by
 have:=more_any R s p d w h
 rwa [decide_eq_false hp] at this
theorem isDigit_any (c : UInt8) (w : World) : Calls Tryz.prog 227 #[.int .u8 (c.toNat : Int)] w fun e w'=>e = .returned (.bool (isDig c)) /\ w = w':=by
 by_cases h0 : (48 : Int) <= (c.toNat : Int)
 ·by_cases h1 : (c.toNat : Int) <= 57
  ·have e : isDig c = true:=isDig_iff.2 (by omega)
   rw [e]
   go_enter Tryz.func227,Tryz.ntmps227
   go_wp2
   go_ret
   exact ⟨rfl,rfl⟩
  ·have e : isDig c = false:=by rw [Bool.eq_false_iff,Ne,isDig_iff];omega
   rw [e]
   go_enter Tryz.func227,Tryz.ntmps227
   go_wp2
   go_ret
   exact ⟨rfl,rfl⟩
 ·have e : isDig c = false:=by rw [Bool.eq_false_iff,Ne,isDig_iff];omega
  rw [e]
  go_enter Tryz.func227,Tryz.ntmps227
  go_wp2
  go_ret
  exact ⟨rfl,rfl⟩
theorem is_no (R : Nat) (s : ByteArray) (p d : Nat) (c : UInt8) (w : World) (h : IsRd w R s p d) (hp : ¬ p < s.size) : Calls Tryz.prog 224 #[.pointer (some ⟨R,0,none⟩),.int .u8 (c.toNat : Int)] w (Quiet (.bool false) w):=by
 have h0:=h.c0
 have h1:=h.c1
 have hd : decide (p < s.size) = false:=decide_eq_false hp
 go_enter Tryz.func224,Tryz.ntmps224
 go_wp2_with fail
 go_quiet ((go_at_call 223;refine Calls.quiet_of (more_no R s p d _ h hp)))
 go_wp2
 go_ret
 exact ⟨rfl,_,rfl⟩
theorem u8_eq_cast {a b : UInt8} : ((a.toNat : Int) == (b.toNat : Int)) = (a == b):=by
 rw [Bool.eq_iff_iff,beq_iff_eq,beq_iff_eq,Int.ofNat_inj,UInt8.toNat_inj]
theorem is_in (R : Nat) (s : ByteArray) (p d : Nat) (c x : UInt8) (w : World) (h : IsRd w R s p d) (hp : p < s.size) (hs : s.size <= 1000000000) (hx : s[p] = x) : Calls Tryz.prog 224 #[.pointer (some ⟨R,0,none⟩),.int .u8 (c.toNat : Int)] w (Quiet (.bool (x == c)) w):=by
 have h0:=h.c0
 have h1:=h.c1
 have hd : decide (p < s.size) = true:=decide_eq_true hp
 have hpz : (p : Int) < (s.size : Int):=by omega
 have HX:=Lib.hid hx
 clear hx
 go_enter Tryz.func224,Tryz.ntmps224
 go_wp2_with fail
 go_quiet ((go_at_call 223;refine Calls.quiet_of (more_yes R s p d _ h hp)))
 go_wp2
 go_ret
 refine ⟨ret_bool ?_,_,rfl⟩
 rw [<- HX.out]
 first | exact u8_eq_cast | simp [u8_eq_cast]
end
section
open Go Go.RowKit
theorem ret_t {k : IntKind} {a b : Int} {v : Value} (h : a = b) : Ending.returned (.tuple #[.int k a,v]) = .returned (.tuple #[.int k b,v]):=by rw [h]
def DigPost (r : Except Int (Nat × Nat)) (R : Nat) (s : ByteArray) (p d : Nat) (w : World) (e : Ending) (w' : World) : Prop :=
 match r with
 | .error x=>e = .returned (.tuple #[.int .u64 0,.int .i64 x]) /\ w.grownBy w' (some R)
 | .ok (n,k)=>e = .returned (.tuple #[.int .u64 n,.int .i64 0]) /\ IsRd w' R s (p + k) d /\ w.grownBy w' (some R)
theorem drop_cons (s : ByteArray) (p : Nat) (h : p < s.size) : s.data.toList.drop p = s[p] :: s.data.toList.drop (p + 1):=by
 rw [List.drop_eq_getElem_cons (by simpa using h)]
 rfl
theorem drop_nil (s : ByteArray) (p : Nat) (h : ¬ p < s.size) : s.data.toList.drop p = []:=List.drop_eq_nil_of_le (by simp;omega)
theorem dg_nil (most : Nat) (stop : UInt8) (over : Int) (first : Bool) (m : Nat) : dg most stop over first m [] = .error 21:=by rw [dg]
theorem dg_stop (most : Nat) (stop : UInt8) (over : Int) (m : Nat) (r : List UInt8) : dg most stop over false m (stop :: r) = .ok (m,1):=by rw [dg,if_pos ⟨rfl,rfl⟩]
theorem dg_bad (most : Nat) (stop : UInt8) (over : Int) (first : Bool) (m : Nat) (c : UInt8) (r : List UInt8) (h1 : c ≠ stop \/ first = true) (h2 : isDig c = false \/ (first = false /\ m = 0)) : dg most stop over first m (c :: r) = .error 20:=by
 rw [dg,if_neg (by rcases h1 with h | h <;> simp [h]),if_pos h2]
theorem dg_over (most : Nat) (stop : UInt8) (over : Int) (first : Bool) (m : Nat) (c : UInt8) (r : List UInt8) (h1 : c ≠ stop \/ first = true) (h2 : isDig c = true) (h3 : first = true \/ m ≠ 0) (h4 : most < 10 * m + (c.toNat - 48)) : dg most stop over first m (c :: r) = .error over:=by
 rw [dg,if_neg (by rcases h1 with h | h <;> simp [h]),if_neg (by rcases h3 with h | h <;> simp [h,h2]),if_pos h4]
theorem dg_on (most : Nat) (stop : UInt8) (over : Int) (first : Bool) (m : Nat) (c : UInt8) (r : List UInt8) (h1 : c ≠ stop \/ first = true) (h2 : isDig c = true) (h3 : first = true \/ m ≠ 0) (h4 : 10 * m + (c.toNat - 48) <= most) : dg most stop over first m (c :: r) = more 1 (dg most stop over false (10 * m + (c.toNat - 48)) r):=by
 rw [dg,if_neg (by rcases h1 with h | h <;> simp [h]),if_neg (by rcases h3 with h | h <;> simp [h,h2]),if_neg (by omega)]
 rcases dg most stop over false (10 * m + (c.toNat - 48)) r with e | ⟨n,k⟩ <;> rfl
theorem DigPost.err {r : Except Int (Nat × Nat)} {x : Int} {R : Nat} {s : ByteArray} {p d : Nat} {w w' : World} {e : Ending} (h : r = .error x) (he : e = .returned (.tuple #[.int .u64 0,.int .i64 x])) (hg : w.grownBy w' (some R)) : DigPost r R s p d w e w':=by
 subst h
 exact ⟨he,hg⟩
theorem DigPost.fine {r : Except Int (Nat × Nat)} {n k : Nat} {R : Nat} {s : ByteArray} {p d : Nat} {w w' : World} {e : Ending} (h : r = .ok (n,k)) (he : e = .returned (.tuple #[.int .u64 n,.int .i64 0])) (hi : IsRd w' R s (p + k) d) (hg : w.grownBy w' (some R)) : DigPost r R s p d w e w':=by
 subst h
 exact ⟨he,hi,hg⟩
theorem digits_any (R : Nat) (s : ByteArray) (p d : Nat) (most : Nat) (stop : UInt8) (over : Int) (w : World) (h : IsRd w R s p d) (hs : s.size <= 1000000000) (hm0 : 9 <= most) (hm1 : most <= 9223372036854775808) (hst : isDig stop = false) :
  Calls Tryz.prog 244 #[.pointer (some ⟨R,0,none⟩),.int .u64 (most : Int),.int .u8 (stop.toNat : Int),.int .i64 over] w (DigPost (dg most stop over true 0 (s.data.toList.drop p)) R s p d w):=by
 have h1:=h.c1
 generalize hr : dg most stop over true 0 (s.data.toList.drop p) = res
 have HR:=Lib.hid hr
 clear hr
 obtain ⟨M,hM⟩ : ∃ M : Int,M = (most : Int):=⟨_,rfl⟩
 rw [<- hM]
 have hMa : 9 <= M:=by omega
 have hMb : M <= 9223372036854775808:=by omega
 have HM:=Lib.hid hM
 clear hM hm0 hm1
 go_enter Tryz.func244,Tryz.ntmps244
 go_wp2
 go_loopw [10] (fun n wr=>∃ (g m : Nat) (a : Int),n = .int .u64 a /\ p <= g /\ 0 <= a /\ a <= M /\ Hid (a = (m : Int)) /\ IsRd wr R s g d /\ w.grownBy wr (some R) /\ (g = p -> a = 0) /\ Hid (res = more (g - p) (dg most stop over (decide (g = p)) m (s.data.toList.drop g)))) (fun _ wr=>match wr.cell? ⟨R,1,none⟩ with | some (.int _ i)=>s.size - i.toNat | _=>0)
 case atStart=>exact ⟨p,0,0,rfl,Nat.le_refl _,by omega,by omega,Lib.hid rfl,h,World.grownBy.refl w _,fun _=>rfl,Lib.hid (by rw [Nat.sub_self,more_zero,decide_eq_true rfl];exact HR.out.symm)⟩
 case round =>
  obtain ⟨g,m,a,rfl,hpg,ha0,ha1,HA,HI,hg,hj0,HD⟩:=hrel
  have c0:=HI.c0
  have c1:=HI.c1
  have f1:=HI.f 1
  by_cases hlt : g < s.size
  ·have hcons:=Lib.hid (drop_cons s g hlt)
   have hpz : (g : Int) < (s.size : Int):=by omega
   have hres : ∀ q1 : Nat,w.grownBy (wr.drewN q1) (some R):=fun q1=>grown_drewN hg _
   have HG:=Lib.hid hres
   clear hres
   by_cases hxs : s[g] = stop
   ·have heq : ((s[g].toNat : Int) == (stop.toNat : Int)) = true:=by rw [u8_eq_cast];simpa using hxs
    by_cases hj : p < g
    ·have HF : Hid (res = .ok (m,g + 1 - p)):=Lib.hid (by
      rw [HD.out,hcons.out,hxs,decide_eq_false (by omega),dg_stop]
      simp only [more]
      congr 2
      omega)
     have HB:=Lib.hid hxs
     clear hxs
     go_wp2_with (first | (go_at_call 223;refine (more_yes R s g d _ HI hlt).mono ?_;rintro e w1 ⟨rfl,q1,rfl⟩))
     go_quiet (fail)
     go_wp2
     go_ret2
     refine DigPost.fine HF.out (ret_t HA.out) ?_ (grown_setCell (grown_drewN hg _) _ rfl _)
     rw [show p + (g + 1 - p) = g + 1 by omega]
     exact (HI.drewN _).set1 (g + 1)
    ·have hgp : g = p:=by omega
     have hdf : isDig s[g] = false:=by rw [hxs];exact hst
     have HF : Hid (res = .error 20):=Lib.hid (by
      rw [HD.out,hcons.out,hxs,decide_eq_true hgp,dg_bad _ _ _ _ _ _ _ (.inr rfl) (.inl hst)]
      rfl)
     have ha0' : a = 0:=hj0 hgp
     have hgt : ¬ (p : Int) < (g : Int):=by omega
     have HB:=Lib.hid hxs
     have HB':=Lib.hid hgp
     have HDF:=Lib.hid hdf
     clear hxs hgp hdf hj0
     subst ha0'
     go_wp2_with (first | (go_at_call 223;refine (more_yes R s g d _ HI hlt).mono ?_;rintro e w1 ⟨rfl,q1,rfl⟩))
     go_quiet (fail)
     go_wp2_with (first | (go_at_call 227;refine (isDigit_any _ _).mono ?_;rw [HDF.out];rintro e w' ⟨rfl,rfl⟩))
     go_ret2
     exact DigPost.err HF.out rfl (HG.out _)
   ·have heq : ((s[g].toNat : Int) == (stop.toNat : Int)) = false:=by rw [u8_eq_cast];simpa using hxs
    by_cases hdig : isDig s[g] = true
    ·have hd1:=isDig_iff.1 hdig
     have hd2 : (48 : Int) <= (s[g].toNat : Int):=by omega
     have hd3 : (s[g].toNat : Int) <= 57:=by omega
     by_cases hno : p < g /\ a = 0
     ·obtain ⟨hj,ha⟩:=hno
      have HF : Hid (res = .error 20):=Lib.hid (by
       rw [HD.out,hcons.out,decide_eq_false (by omega),dg_bad _ _ _ _ _ _ _ (.inl hxs) (.inr ⟨rfl,by have:=HA.out;omega⟩)]
       rfl)
      have HB:=Lib.hid hxs
      have HDF:=Lib.hid hdig
      clear hxs hj0 hdig hd1
      subst ha
      go_wp2_with (first | (go_at_call 223;refine (more_yes R s g d _ HI hlt).mono ?_;rintro e w1 ⟨rfl,q1,rfl⟩))
      go_quiet (fail)
      go_wp2_with (first | (go_at_call 227;refine (isDigit_any _ _).mono ?_;rw [HDF.out];rintro e w' ⟨rfl,rfl⟩))
      go_ret2
      exact DigPost.err HF.out rfl (HG.out _)
     ·have h3 : decide (g = p) = true \/ m ≠ 0:=by
       have:=HA.out
       by_cases hgp : g = p
       ·exact .inl (decide_eq_true hgp)
       ·exact .inr (by omega)
      by_cases hov : M < 10 * a + ((s[g].toNat : Int) - 48)
      ·have HF : Hid (res = .error over):=Lib.hid (by
        have e1:=HA.out
        have e2:=HM.out
        rw [HD.out,hcons.out,dg_over _ _ _ _ _ _ _ (.inl hxs) hdig h3 (by omega)]
        rfl)
       have HB:=Lib.hid hxs
       have HDF:=Lib.hid hdig
       have hdv : (M - ((s[g].toNat : Int) - 48)) / 10 < a:=by omega
       clear hxs hj0 hdig hd1 h3
       by_cases hj : p < g <;> by_cases ha : a = 0
       case pos=>exact absurd ⟨hj,ha⟩ hno
       all_goals
        clear hno
        first | (exfalso;omega) | skip
       all_goals
        have hab : (a == 0) = decide (a = 0):=rfl
        first
         | rw [decide_eq_true ha] at hab
         | rw [decide_eq_false ha] at hab
        have HZ:=Lib.hid ha
        clear ha
        go_wp2_with (first | (go_at_call 223;refine (more_yes R s g d _ HI hlt).mono ?_;rintro e w1 ⟨rfl,q1,rfl⟩))
        go_quiet (fail)
        go_wp2_with (first | (go_at_call 227;refine (isDigit_any _ _).mono ?_;rw [HDF.out];rintro e w' ⟨rfl,rfl⟩))
        go_ret2
        exact DigPost.err HF.out rfl (HG.out _)
      ·have HF : Hid (res = more (g + 1 - p) (dg most stop over (decide (g + 1 = p)) (10 * m + (s[g].toNat - 48)) (s.data.toList.drop (g + 1)))):=Lib.hid (by
        have e1:=HA.out
        have e2:=HM.out
        rw [HD.out,hcons.out,dg_on _ _ _ _ _ _ _ (.inl hxs) hdig h3 (by omega),more_more,decide_eq_false (by omega : ¬ g + 1 = p),show 1 + (g - p) = g + 1 - p by omega])
       have HAA : Hid (10 * a + ((s[g].toNat : Int) - 48) = ((10 * m + (s[g].toNat - 48) : Nat) : Int)):=Lib.hid (by
        have e1:=HA.out
        omega)
       have HB:=Lib.hid hxs
       have HDF:=Lib.hid hdig
       have hdv : a <= (M - ((s[g].toNat : Int) - 48)) / 10:=by omega
       clear hxs hj0 hdig hd1 h3
       by_cases hj : p < g <;> by_cases ha : a = 0
       case pos=>exact absurd ⟨hj,ha⟩ hno
       all_goals
        clear hno
        first | (exfalso;omega) | skip
       all_goals
        have hab : (a == 0) = decide (a = 0):=rfl
        first
         | rw [decide_eq_true ha] at hab
         | rw [decide_eq_false ha] at hab
        have HZ:=Lib.hid ha
        clear ha
        go_wp2_with (first | (go_at_call 223;refine (more_yes R s g d _ HI hlt).mono ?_;rintro e w1 ⟨rfl,q1,rfl⟩))
        go_quiet (fail)
        go_wp2_with (first | (go_at_call 227;refine (isDigit_any _ _).mono ?_;rw [HDF.out];rintro e w' ⟨rfl,rfl⟩))
        go_roundw
        case rel=>exact ⟨g + 1,_,_,rfl,by omega,by omega,by omega,HAA,(HI.drewN _).set1 (g + 1),grown_setCell (grown_drewN hg _) _ rfl _,by omega,HF⟩
        case measure =>
         rw [HI.sc1,c1]
         simp
         omega
    ·have hdf : isDig s[g] = false:=by simpa using hdig
     have HF : Hid (res = .error 20):=Lib.hid (by
      rw [HD.out,hcons.out,dg_bad _ _ _ _ _ _ _ (.inl hxs) (.inl hdf)]
      rfl)
     have HB:=Lib.hid hxs
     have HDF:=Lib.hid hdf
     clear hxs hdf hj0 hdig
     by_cases hj : p < g <;> by_cases ha : a = 0
     all_goals
      go_wp2_with (first | (go_at_call 223;refine (more_yes R s g d _ HI hlt).mono ?_;rintro e w1 ⟨rfl,q1,rfl⟩))
      go_quiet (fail)
      go_wp2_with (first | (go_at_call 227;refine (isDigit_any _ _).mono ?_;rw [HDF.out];rintro e w' ⟨rfl,rfl⟩))
      go_ret2
      exact DigPost.err HF.out rfl (HG.out _)
  ·go_wp2_with (go_at_call 223;refine (more_no R s g d _ HI hlt).mono ?_;rintro e w1 ⟨rfl,q1,rfl⟩)
   go_ret2
   exact DigPost.err (by rw [HD.out,drop_nil s _ hlt,dg_nil];rfl) rfl (grown_drewN hg _)
end
section
open Go Go.RowKit
theorem digits_ok (R : Nat) (s : ByteArray) (p d : Nat) (most : Nat) (M : Int) (hM : M = (most : Int)) (stop : UInt8) (z : Int) (hz : z = (stop.toNat : Int)) (over : Int) (w : World) (h : IsRd w R s p d) (hs : s.size <= 1000000000) (hm0 : 9 <= most) (hm1 : most <= 9223372036854775808) (hst : isDig stop = false)
  (n k : Nat) (hx : dg most stop over true 0 (s.data.toList.drop p) = .ok (n,k)) :
  Calls Tryz.prog 244 #[.pointer (some ⟨R,0,none⟩),.int .u64 M,.int .u8 z,.int .i64 over] w fun e w'=>e = .returned (.tuple #[.int .u64 n,.int .i64 0]) /\ IsRd w' R s (p + k) d /\ w.grownBy w' (some R):=by
 subst hM hz
 have:=digits_any R s p d most stop over w h hs hm0 hm1 hst
 rw [hx] at this
 exact this
theorem is_z (R : Nat) (s : ByteArray) (p d : Nat) (c : UInt8) (z : Int) (hz : z = (c.toNat : Int)) (b : Bool) (w : World) (h : IsRd w R s p d) (hs : s.size <= 1000000000) (hb : b = ((s.data.toList.drop p).head? == some c)) : Calls Tryz.prog 224 #[.pointer (some ⟨R,0,none⟩),.int .u8 z] w (Quiet (.bool b) w):=by
 subst hz
 by_cases hp : p < s.size
 ·rw [drop_cons s p hp] at hb
  have:=is_in R s p d c s[p] w h hp hs rfl
  rw [hb]
  simpa using this
 ·rw [drop_nil s p hp] at hb
  have:=is_no R s p d c w h hp
  rw [hb]
  simpa using this
end
section
open Go Go.RowKit
structure WrAt (w : World) (Wb B : Nat) (v : Value) (bs : List UInt8) : Prop where
 blk : w.heap[Wb]? = some (.cells #[v] 250 (0,0))
 own : w.ownsRow B 5 1 v bs.length (Lib.byteCells bs)
 lt : Wb < B
 le : B <= w.heap.size
theorem WrAt.cell {w : World} {Wb B : Nat} {v : Value} {bs : List UInt8} (h : WrAt w Wb B v bs) : w.cell? ⟨Wb,0,none⟩ = some v /\ w.frozen? ⟨Wb,0,none⟩ = false /\ Wb < w.heap.size:=by
 have:=h.blk
 refine ⟨by simp [World.cell?,this],by simp [World.frozen?,this],(Array.getElem?_eq_some_iff.1 this).1⟩
theorem WrAt.below {w w' : World} {Wb B : Nat} {v : Value} {bs : List UInt8} (h : WrAt w Wb B v bs) (hb : Below w.heap.size w w') : WrAt w' Wb B v bs :=
 ⟨(hb.block _ h.cell.2.2).trans h.blk,h.own.kept (grown_below hb none) (by
  cases hx : v.ownBlock with
  | none=>exact .inl rfl
  | some g=>exact .inr (by simp)),h.lt,Nat.le_trans h.le hb.size⟩
theorem WrAt.grown {w w1 : World} {Wb B : Nat} {v : Value} {bs : List UInt8} (h : WrAt w Wb B v bs) (hg : w.grownBy w1 v.ownBlock) : w1.heap[Wb]? = some (.cells #[v] 250 (0,0)):=by
 rw [hg.block Wb h.cell.2.2 (fun e=>by have:=(h.own.lt _ e.symm).1;have:=h.lt;omega)]
 exact h.blk
theorem blk_cell {w : World} {Wb : Nat} {v : Value} (h : w.heap[Wb]? = some (.cells #[v] 250 (0,0))) : w.cell? ⟨Wb,0,none⟩ = some v /\ w.frozen? ⟨Wb,0,none⟩ = false /\ Wb < w.heap.size :=
 ⟨by simp [World.cell?,h],by simp [World.frozen?,h],(Array.getElem?_eq_some_iff.1 h).1⟩
theorem wr_put {w1 : World} {Wb B : Nat} {v v1 : Value} {bs : List UInt8} (hblk : w1.heap[Wb]? = some (.cells #[v] 250 (0,0))) (hown : w1.ownsRow B 5 1 v1 bs.length (Lib.byteCells bs)) (hlt : Wb < B) (hle : B <= w1.heap.size) : WrAt (w1.setCell ⟨Wb,0,none⟩ v1) Wb B v1 bs:=by
 refine ⟨?_,ownsRow_setCell_below hown (a:=⟨Wb,0,none⟩) hlt v1,hlt,by simpa using hle⟩
 simp only [World.setCell,Array.getElem?_modify,hblk]
 simp
def Tabs (w : World) (Wb : Nat) : Prop:=Lib.TabBelow Tryz.prog Wb w "internal/strconv.uint64pow10" .u64 Lib.pow10Tab
theorem Tabs.on {w w1 : World} {Wb : Nat} (h : Tabs w Wb) (hb : Below Wb w w1) : Tabs w1 Wb:=Lib.TabBelow.on h hb
theorem Tabs.up {w : World} {Wb B : Nat} (h : Tabs w Wb) (hB : Wb <= B) : Tabs w B:=fun w' hb=>h w' (hb.mono hB)
theorem fits_any (Wb B : Nat) (v : Value) (bs : List UInt8) (w : World) (h : WrAt w Wb B v bs) : Calls Tryz.prog 201 #[.pointer (some ⟨Wb,0,none⟩)] w fun e w'=>e = .returned (.bool (decide (bs.length <= 65536))) /\ w = w':=by
 obtain ⟨hc,hf,hz⟩:=h.cell
 obtain ⟨A,c,rfl,_⟩:=own_shape h.own
 generalize bs.length = n at *
 go_enter Tryz.func201,Tryz.ntmps201
 go_wp2
 go_ret
 exact ⟨ret_bool (by simp;try omega),rfl⟩
def WrPost (Wb B : Nat) (bs : List UInt8) (v : Value) (w : World) (e : Ending) (w' : World) : Prop:=e = .returned v /\ (∃ u,WrAt w' Wb B u bs) /\ Below Wb w w'
theorem append_i64 (Wb B : Nat) (v : Value) (bs : List UInt8) (n : Int) (h0 : -9223372036854775808 <= n) (h1 : n <= 9223372036854775807) (hl : bs.length <= 1000000) (w : World) (h : WrAt w Wb B v bs) (hT : Tabs w Wb) :
  Calls Tryz.prog 218 #[v,.int .i64 n,.int .i64 10] w fun e w'=>∃ v',e = .returned v' /\ w'.heap[Wb]? = some (.cells #[v] 250 (0,0)) /\ w'.ownsRow B 5 1 v' (bs ++ Lib.itoa n).length (Lib.byteCells (bs ++ Lib.itoa n)) /\ B <= w'.heap.size /\ Below B w w':=by
 refine (Tryz.strconv_AppendInt_10 B bs.length n h0 h1 v (Lib.byteCells bs) w h.own h.le (by omega) (hT.up (Nat.le_of_lt h.lt))).mono ?_
 rintro e w' ⟨v',he,hown,hb,hk⟩
 refine ⟨v',he,(hb.block Wb h.lt).trans h.blk,?_,Nat.le_trans h.le hb.size,hb⟩
 rw [List.length_append,Lib.byteCells_append]
 exact hown
theorem wnumber_any (Wb B : Nat) (v : Value) (bs : List UInt8) (n : Int) (h0 : -9223372036854775808 <= n) (h1 : n <= 9223372036854775807) (hl : bs.length <= 900000) (w : World) (h : WrAt w Wb B v bs) (hT : Tabs w Wb) :
  Calls Tryz.prog 198 #[.pointer (some ⟨Wb,0,none⟩),.int .i64 n] w (WrPost Wb B (bs ++ 105 :: (Lib.itoa n ++ [101])) (.tuple #[]) w):=by
 obtain ⟨hc,hf,hz⟩:=h.cell
 have hBs:=h.le
 have hlt:=h.lt
 go_enter Tryz.func198,Tryz.ntmps198
 go_wp2_with (at_builtin;refine append_byte rfl (.tmp 8) (.tmp 9) rfl B v bs.length _ _ rfl rfl h.own rfl (by omega) hBs ?_;intro v1 w1 hown1 hgr1 hob1;obtain ⟨A1,c1,rfl,_⟩:=own_shape hown1;have hb1:=h.grown hgr1;obtain ⟨k0,k1,k2⟩:=blk_cell hb1)
 have hB1 : B <= w1.heap.size:=Nat.le_trans hBs hgr1.size
 have hw2:=wr_put hb1 (own_byte 105 rfl hown1) hlt hB1
 have hbel2 : Below Wb w (w1.setCell ⟨Wb,0,none⟩ (.slice A1 (bs.length + 1) c1)):=((Below.refl Wb w).grown hgr1 (by omega) (fun k hk=>by have:=(h.own.lt _ hk).1;omega)).setCell (Nat.le_refl _) _
 generalize w1.setCell ⟨Wb,0,none⟩ (.slice A1 (bs.length + 1) c1) = w2 at hw2 hbel2
 clear k0 k1 k2
 refine (append_i64 Wb B _ (bs ++ [105]) n h0 h1 (by simp;omega) w2 hw2 (hT.on hbel2)).mono ?_
 rintro e w3 ⟨v3,rfl,hb3,hown3,hB3,hbe3⟩
 obtain ⟨A3,c3,rfl,_⟩:=own_shape hown3
 obtain ⟨k0,k1,k2⟩:=blk_cell hb3
 have hw4:=wr_put hb3 hown3 hlt hB3
 have hbel4 : Below Wb w (w3.setCell ⟨Wb,0,none⟩ (.slice A3 (bs ++ [105] ++ Lib.itoa n).length c3)):=(hbel2.trans (hbe3.mono (by omega))).setCell (Nat.le_refl _) _
 have hil:=itoa_len n h0 h1
 have hown4:=hw4.own
 have hgr4:=fun w5=>hw4.grown (w1:=w5)
 have hLb : (bs ++ [105] ++ Lib.itoa n).length <= 1000000:=by simp;omega
 generalize hbs' : bs ++ [105] ++ Lib.itoa n = bs' at *
 have HBS:=Lib.hid hbs'
 clear hbs'
 go_wp2_with (at_builtin;refine append_byte_at rfl (.tmp 26) (.tmp 27) rfl B _ bs'.length _ _ rfl rfl hown4 w3.heap.size (by simp) rfl (by omega) (by simp;omega) ?_;intro v5 w5 hown5 hgr5 hob5;obtain ⟨A5,c5,rfl,_⟩:=own_shape hown5;have hb5:=hgr4 _ hgr5;obtain ⟨k3,k4,k5⟩:=blk_cell hb5)
 have hB5 : B <= w5.heap.size:=by have:=hgr5.size;have:=hw4.le;omega
 have hw6:=wr_put hb5 (own_byte 101 rfl hown5) hlt hB5
 have hbel6 : Below Wb w (w5.setCell ⟨Wb,0,none⟩ (.slice A5 (bs'.length + 1) c5)):=(hbel4.grown hgr5 (by have:=hw4.le;omega) (fun k hk=>by have:=(hown4.lt _ hk).1;omega)).setCell (Nat.le_refl _) _
 go_end0
 have e : bs ++ 105 :: (Lib.itoa n ++ [101]) = bs' ++ [101]:=by rw [<- HBS.out];simp
 rw [<- e] at hw6
 exact ⟨rfl,⟨_,hw6⟩,hbel6⟩
end
end Go.Proofs.YtegjjhjgfkcbhaaGreatDoor
