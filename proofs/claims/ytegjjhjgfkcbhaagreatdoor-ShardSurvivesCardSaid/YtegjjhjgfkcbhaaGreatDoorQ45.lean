/- BRdB BAss. Conditions: as each part says. -/
import Derived.Test.YtegjjhjgfkcbhaaGreatDoorQ02
set_option linter.unusedVariables false
set_option linter.unusedSimpArgs false
set_option maxRecDepth 100000
set_option maxHeartbeats 16000000
namespace Go.Proofs.YtegjjhjgfkcbhaaGreatDoor
namespace Be
section
open Go Go.RowKit
theorem ret_t {k : IntKind} {a b : Int} {v : Value} (h : a = b) : Ending.returned (.tuple #[.int k a,v]) = .returned (.tuple #[.int k b,v]):=by rw [h]
def DigPost (r : Except Int (Nat × Nat)) (R : Nat) (s : ByteArray) (p d : Nat) (w : World) (e : Ending) (w' : World) : Prop :=
 match r with
 | .error x=>e = .returned (.tuple #[.int .u64 0,.int .i64 x]) /\ w.grownBy w' (some R)
 | .ok (n,k)=>e = .returned (.tuple #[.int .u64 n,.int .i64 0]) /\ IsRd w' R s (p + k) d /\ w.grownBy w' (some R)
theorem drop_cons (s : ByteArray) (p : Nat) (h : p < s.size) : s.data.toList.drop p = s[p] :: s.data.toList.drop (p + 1):=by
 rw [List.drop_eq_getElem_cons (by simpa using h)]
 rfl
theorem drop_nil (s : ByteArray) (p : Nat) (h : ¬ p < s.size) : s.data.toList.drop p = []:=List.drop_eq_nil_of_le (by simp;omega)
theorem dg_nil (most : Nat) (stop : UInt8) (over : Int) (first : Bool) (m : Nat) : dg most stop over first m [] = .error 21:=by rw [dg]
theorem dg_stop (most : Nat) (stop : UInt8) (over : Int) (m : Nat) (r : List UInt8) : dg most stop over false m (stop :: r) = .ok (m,1):=by rw [dg,if_pos ⟨rfl,rfl⟩]
theorem dg_bad (most : Nat) (stop : UInt8) (over : Int) (first : Bool) (m : Nat) (c : UInt8) (r : List UInt8) (h1 : c ≠ stop \/ first = true) (h2 : isDig c = false \/ (first = false /\ m = 0)) : dg most stop over first m (c :: r) = .error 20:=by
 rw [dg,if_neg (by rcases h1 with h | h <;> simp [h]),if_pos h2]
theorem dg_over (most : Nat) (stop : UInt8) (over : Int) (first : Bool) (m : Nat) (c : UInt8) (r : List UInt8) (h1 : c ≠ stop \/ first = true) (h2 : isDig c = true) (h3 : first = true \/ m ≠ 0) (h4 : most < 10 * m + (c.toNat - 48)) : dg most stop over first m (c :: r) = .error over:=by
 rw [dg,if_neg (by rcases h1 with h | h <;> simp [h]),if_neg (by rcases h3 with h | h <;> simp [h,h2]),if_pos h4]
theorem dg_on (most : Nat) (stop : UInt8) (over : Int) (first : Bool) (m : Nat) (c : UInt8) (r : List UInt8) (h1 : c ≠ stop \/ first = true) (h2 : isDig c = true) (h3 : first = true \/ m ≠ 0) (h4 : 10 * m + (c.toNat - 48) <= most) : dg most stop over first m (c :: r) = more 1 (dg most stop over false (10 * m + (c.toNat - 48)) r):=by
 rw [dg,if_neg (by rcases h1 with h | h <;> simp [h]),if_neg (by rcases h3 with h | h <;> simp [h,h2]),if_neg (by omega)]
 rcases dg most stop over false (10 * m + (c.toNat - 48)) r with e | ⟨n,k⟩ <;> rfl
theorem DigPost.err {r : Except Int (Nat × Nat)} {x : Int} {R : Nat} {s : ByteArray} {p d : Nat} {w w' : World} {e : Ending} (h : r = .error x) (he : e = .returned (.tuple #[.int .u64 0,.int .i64 x])) (hg : w.grownBy w' (some R)) : DigPost r R s p d w e w':=by
 subst h
 exact ⟨he,hg⟩
theorem DigPost.fine {r : Except Int (Nat × Nat)} {n k : Nat} {R : Nat} {s : ByteArray} {p d : Nat} {w w' : World} {e : Ending} (h : r = .ok (n,k)) (he : e = .returned (.tuple #[.int .u64 n,.int .i64 0])) (hi : IsRd w' R s (p + k) d) (hg : w.grownBy w' (some R)) : DigPost r R s p d w e w':=by
 subst h
 exact ⟨he,hi,hg⟩
theorem digits_any (R : Nat) (s : ByteArray) (p d : Nat) (most : Nat) (stop : UInt8) (over : Int) (w : World) (h : IsRd w R s p d) (hs : s.size <= 1000000000) (hm0 : 9 <= most) (hm1 : most <= 9223372036854775808) (hst : isDig stop = false) :
  Calls Tryz.prog 244 #[.pointer (some ⟨R,0,none⟩),.int .u64 (most : Int),.int .u8 (stop.toNat : Int),.int .i64 over] w (DigPost (dg most stop over true 0 (s.data.toList.drop p)) R s p d w):=by
 have h1:=h.c1
 generalize hr : dg most stop over true 0 (s.data.toList.drop p) = res
 have HR:=Lib.hid hr
 clear hr
 obtain ⟨M,hM⟩ : ∃ M : Int,M = (most : Int):=⟨_,rfl⟩
 rw [<- hM]
 have hMa : 9 <= M:=by omega
 have hMb : M <= 9223372036854775808:=by omega
 have HM:=Lib.hid hM
 clear hM hm0 hm1
 go_enter Tryz.func244,Tryz.ntmps244
 go_wp2
 go_loopw [10] (fun n wr=>∃ (g m : Nat) (a : Int),n = .int .u64 a /\ p <= g /\ 0 <= a /\ a <= M /\ Hid (a = (m : Int)) /\ IsRd wr R s g d /\ w.grownBy wr (some R) /\ (g = p -> a = 0) /\ Hid (res = more (g - p) (dg most stop over (decide (g = p)) m (s.data.toList.drop g)))) (fun _ wr=>match wr.cell? ⟨R,1,none⟩ with | some (.int _ i)=>s.size - i.toNat | _=>0)
 case atStart=>exact ⟨p,0,0,rfl,Nat.le_refl _,by omega,by omega,Lib.hid rfl,h,World.grownBy.refl w _,fun _=>rfl,Lib.hid (by rw [Nat.sub_self,more_zero,decide_eq_true rfl];exact HR.out.symm)⟩
 case round =>
  obtain ⟨g,m,a,rfl,hpg,ha0,ha1,HA,HI,hg,hj0,HD⟩:=hrel
  have c0:=HI.c0
  have c1:=HI.c1
  have f1:=HI.f 1
  by_cases hlt : g < s.size
  ·have hcons:=Lib.hid (drop_cons s g hlt)
   have hpz : (g : Int) < (s.size : Int):=by omega
   have hres : ∀ q1 : Nat,w.grownBy (wr.drewN q1) (some R):=fun q1=>grown_drewN hg _
   have HG:=Lib.hid hres
   clear hres
   by_cases hxs : s[g] = stop
   ·have heq : ((s[g].toNat : Int) == (stop.toNat : Int)) = true:=by rw [u8_eq_cast];simpa using hxs
    by_cases hj : p < g
    ·have HF : Hid (res = .ok (m,g + 1 - p)):=Lib.hid (by
      rw [HD.out,hcons.out,hxs,decide_eq_false (by omega),dg_stop]
      simp only [more]
      congr 2
      omega)
     have HB:=Lib.hid hxs
     clear hxs
     go_wp2_with (first | (go_at_call 223;refine (more_yes R s g d _ HI hlt).mono ?_;rintro e w1 ⟨rfl,q1,rfl⟩))
     go_quiet (fail)
     go_wp2
     go_ret2
     refine DigPost.fine HF.out (ret_t HA.out) ?_ (grown_setCell (grown_drewN hg _) _ rfl _)
     rw [show p + (g + 1 - p) = g + 1 by omega]
     exact (HI.drewN _).set1 (g + 1)
    ·have hgp : g = p:=by omega
     have hdf : isDig s[g] = false:=by rw [hxs];exact hst
     have HF : Hid (res = .error 20):=Lib.hid (by
      rw [HD.out,hcons.out,hxs,decide_eq_true hgp,dg_bad _ _ _ _ _ _ _ (.inr rfl) (.inl hst)]
      rfl)
     have ha0' : a = 0:=hj0 hgp
     have hgt : ¬ (p : Int) < (g : Int):=by omega
     have HB:=Lib.hid hxs
     have HB':=Lib.hid hgp
     have HDF:=Lib.hid hdf
     clear hxs hgp hdf hj0
     subst ha0'
     go_wp2_with (first | (go_at_call 223;refine (more_yes R s g d _ HI hlt).mono ?_;rintro e w1 ⟨rfl,q1,rfl⟩))
     go_quiet (fail)
     go_wp2_with (first | (go_at_call 227;refine (isDigit_any _ _).mono ?_;rw [HDF.out];rintro e w' ⟨rfl,rfl⟩))
     go_ret2
     exact DigPost.err HF.out rfl (HG.out _)
   ·have heq : ((s[g].toNat : Int) == (stop.toNat : Int)) = false:=by rw [u8_eq_cast];simpa using hxs
    by_cases hdig : isDig s[g] = true
    ·have hd1:=isDig_iff.1 hdig
     have hd2 : (48 : Int) <= (s[g].toNat : Int):=by omega
     have hd3 : (s[g].toNat : Int) <= 57:=by omega
     by_cases hno : p < g /\ a = 0
     ·obtain ⟨hj,ha⟩:=hno
      have HF : Hid (res = .error 20):=Lib.hid (by
       rw [HD.out,hcons.out,decide_eq_false (by omega),dg_bad _ _ _ _ _ _ _ (.inl hxs) (.inr ⟨rfl,by have:=HA.out;omega⟩)]
       rfl)
      have HB:=Lib.hid hxs
      have HDF:=Lib.hid hdig
      clear hxs hj0 hdig hd1
      subst ha
      go_wp2_with (first | (go_at_call 223;refine (more_yes R s g d _ HI hlt).mono ?_;rintro e w1 ⟨rfl,q1,rfl⟩))
      go_quiet (fail)
      go_wp2_with (first | (go_at_call 227;refine (isDigit_any _ _).mono ?_;rw [HDF.out];rintro e w' ⟨rfl,rfl⟩))
      go_ret2
      exact DigPost.err HF.out rfl (HG.out _)
     ·have h3 : decide (g = p) = true \/ m ≠ 0:=by
       have:=HA.out
       by_cases hgp : g = p
       ·exact .inl (decide_eq_true hgp)
       ·exact .inr (by omega)
      by_cases hov : M < 10 * a + ((s[g].toNat : Int) - 48)
      ·have HF : Hid (res = .error over):=Lib.hid (by
        have e1:=HA.out
        have e2:=HM.out
        rw [HD.out,hcons.out,dg_over _ _ _ _ _ _ _ (.inl hxs) hdig h3 (by omega)]
        rfl)
       have HB:=Lib.hid hxs
       have HDF:=Lib.hid hdig
       have hdv : (M - ((s[g].toNat : Int) - 48)) / 10 < a:=by omega
       clear hxs hj0 hdig hd1 h3
       by_cases hj : p < g <;> by_cases ha : a = 0
       case pos=>exact absurd ⟨hj,ha⟩ hno
       all_goals
        clear hno
        first | (exfalso;omega) | skip
       all_goals
        have hab : (a == 0) = decide (a = 0):=rfl
        first
         | rw [decide_eq_true ha] at hab
         | rw [decide_eq_false ha] at hab
        have HZ:=Lib.hid ha
        clear ha
        go_wp2_with (first | (go_at_call 223;refine (more_yes R s g d _ HI hlt).mono ?_;rintro e w1 ⟨rfl,q1,rfl⟩))
        go_quiet (fail)
        go_wp2_with (first | (go_at_call 227;refine (isDigit_any _ _).mono ?_;rw [HDF.out];rintro e w' ⟨rfl,rfl⟩))
        go_ret2
        exact DigPost.err HF.out rfl (HG.out _)
      ·have HF : Hid (res = more (g + 1 - p) (dg most stop over (decide (g + 1 = p)) (10 * m + (s[g].toNat - 48)) (s.data.toList.drop (g + 1)))):=Lib.hid (by
        have e1:=HA.out
        have e2:=HM.out
        rw [HD.out,hcons.out,dg_on _ _ _ _ _ _ _ (.inl hxs) hdig h3 (by omega),more_more,decide_eq_false (by omega : ¬ g + 1 = p),show 1 + (g - p) = g + 1 - p by omega])
       have HAA : Hid (10 * a + ((s[g].toNat : Int) - 48) = ((10 * m + (s[g].toNat - 48) : Nat) : Int)):=Lib.hid (by
        have e1:=HA.out
        omega)
       have HB:=Lib.hid hxs
       have HDF:=Lib.hid hdig
       have hdv : a <= (M - ((s[g].toNat : Int) - 48)) / 10:=by omega
       clear hxs hj0 hdig hd1 h3
       by_cases hj : p < g <;> by_cases ha : a = 0
       case pos=>exact absurd ⟨hj,ha⟩ hno
       all_goals
        clear hno
        first | (exfalso;omega) | skip
       all_goals
        have hab : (a == 0) = decide (a = 0):=rfl
        first
         | rw [decide_eq_true ha] at hab
         | rw [decide_eq_false ha] at hab
        have HZ:=Lib.hid ha
        clear ha
        go_wp2_with (first | (go_at_call 223;refine (more_yes R s g d _ HI hlt).mono ?_;rintro e w1 ⟨rfl,q1,rfl⟩))
        go_quiet (fail)
        go_wp2_with (first | (go_at_call 227;refine (isDigit_any _ _).mono ?_;rw [HDF.out];rintro e w' ⟨rfl,rfl⟩))
        go_roundw
        case rel=>exact ⟨g + 1,_,_,rfl,by omega,by omega,by omega,HAA,(HI.drewN _).set1 (g + 1),grown_setCell (grown_drewN hg _) _ rfl _,by omega,HF⟩
        case measure =>
         rw [HI.sc1,c1]
         simp
         omega
    ·have hdf : isDig s[g] = false:=by simpa using hdig
     have HF : Hid (res = .error 20):=Lib.hid (by
      rw [HD.out,hcons.out,dg_bad _ _ _ _ _ _ _ (.inl hxs) (.inl hdf)]
      rfl)
     have HB:=Lib.hid hxs
     have HDF:=Lib.hid hdf
     clear hxs hdf hj0 hdig
     by_cases hj : p < g <;> by_cases ha : a = 0
     all_goals
      go_wp2_with (first | (go_at_call 223;refine (more_yes R s g d _ HI hlt).mono ?_;rintro e w1 ⟨rfl,q1,rfl⟩))
      go_quiet (fail)
      go_wp2_with (first | (go_at_call 227;refine (isDigit_any _ _).mono ?_;rw [HDF.out];rintro e w' ⟨rfl,rfl⟩))
      go_ret2
      exact DigPost.err HF.out rfl (HG.out _)
  ·go_wp2_with (go_at_call 223;refine (more_no R s g d _ HI hlt).mono ?_;rintro e w1 ⟨rfl,q1,rfl⟩)
   go_ret2
   exact DigPost.err (by rw [HD.out,drop_nil s _ hlt,dg_nil];rfl) rfl (grown_drewN hg _)
end
end Be
namespace Be
section
open Go Go.RowKit
theorem as_27_27 (x : Value) (w : World) : (Instr.typeAssert (.iface 35 x) 20 35 true).run Tryz.prog w = .ok (.tuple #[x,.bool true]) w:=by kernel_rfl
theorem as_3_27 (x : Value) (w : World) : (Instr.typeAssert (.iface 3 x) 20 35 true).run Tryz.prog w = .ok (.tuple #[.int .i64 0,.bool false]) w:=by kernel_rfl
theorem as_9_27 (x : Value) (w : World) : (Instr.typeAssert (.iface 9 x) 20 35 true).run Tryz.prog w = .ok (.tuple #[.int .i64 0,.bool false]) w:=by kernel_rfl
theorem as_63_27 (x : Value) (w : World) : (Instr.typeAssert (.iface 303 x) 20 35 true).run Tryz.prog w = .ok (.tuple #[.int .i64 0,.bool false]) w:=by kernel_rfl
theorem as_3_3 (x : Value) (w : World) : (Instr.typeAssert (.iface 3 x) 20 3 true).run Tryz.prog w = .ok (.tuple #[x,.bool true]) w:=by kernel_rfl
theorem as_9_3 (x : Value) (w : World) : (Instr.typeAssert (.iface 9 x) 20 3 true).run Tryz.prog w = .ok (.tuple #[.int .i64 0,.bool false]) w:=by kernel_rfl
theorem as_63_3 (x : Value) (w : World) : (Instr.typeAssert (.iface 303 x) 20 3 true).run Tryz.prog w = .ok (.tuple #[.int .i64 0,.bool false]) w:=by kernel_rfl
theorem as_9_9 (x : Value) (w : World) : (Instr.typeAssert (.iface 9 x) 20 9 true).run Tryz.prog w = .ok (.tuple #[x,.bool true]) w:=by kernel_rfl
theorem as_63_9 (x : Value) (w : World) : (Instr.typeAssert (.iface 303 x) 20 9 true).run Tryz.prog w = .ok (.tuple #[.string ⟨#[]⟩,.bool false]) w:=by kernel_rfl
theorem as_63_63 (x : Value) (w : World) : (Instr.typeAssert (.iface 303 x) 20 303 true).run Tryz.prog w = .ok (.tuple #[x,.bool true]) w:=by kernel_rfl
end
end Be
end Go.Proofs.YtegjjhjgfkcbhaaGreatDoor
