/- BRdC BRdD BRdE. Conditions: as each part says. -/
import Derived.Test.YtegjjhjgfkcbhaaGreatDoorQ45
import Derived.Test.YtegjjhjgfkcbhaaGreatDoorQ02
set_option linter.unusedVariables false
set_option linter.unusedSimpArgs false
set_option maxRecDepth 100000
set_option maxHeartbeats 16000000
namespace Go.Proofs.YtegjjhjgfkcbhaaGreatDoor
namespace Be
section
open Go Go.RowKit
theorem dg_errs (most : Nat) (stop : UInt8) (over : Int) : ∀ (bs : List UInt8) (first : Bool) (m : Nat) (x : Int),dg most stop over first m bs = .error x -> x = 20 \/ x = 21 \/ x = over:=by
 intro bs
 induction bs with
 | nil=>intro first m x h;rw [dg] at h;cases h;simp
 | cons c r ih =>
  intro first m x h
  rw [dg] at h
  split at h
  ·cases h
  ·split at h
   ·cases h;simp
   ·split at h
    ·cases h;simp
    ·revert h
     rcases hx : dg most stop over false (10 * m + (c.toNat - 48)) r with e | ⟨n',k'⟩
     ·intro h
      cases h
      exact ih _ _ _ hx
     ·intro h;cases h
theorem digits_err (R : Nat) (s : ByteArray) (p d : Nat) (most : Nat) (M : Int) (hM : M = (most : Int)) (stop : UInt8) (z : Int) (hz : z = (stop.toNat : Int)) (over : Int) (w : World) (h : IsRd w R s p d) (hs : s.size <= 1000000000) (hm0 : 9 <= most) (hm1 : most <= 9223372036854775808) (hst : isDig stop = false)
  (x : Int) (hx : dg most stop over true 0 (s.data.toList.drop p) = .error x) :
  Calls Tryz.prog 244 #[.pointer (some ⟨R,0,none⟩),.int .u64 M,.int .u8 z,.int .i64 over] w fun e w'=>e = .returned (.tuple #[.int .u64 0,.int .i64 x]) /\ w.grownBy w' (some R):=by
 subst hM hz
 have:=digits_any R s p d most stop over w h hs hm0 hm1 hst
 rw [hx] at this
 exact this
theorem digits_ok (R : Nat) (s : ByteArray) (p d : Nat) (most : Nat) (M : Int) (hM : M = (most : Int)) (stop : UInt8) (z : Int) (hz : z = (stop.toNat : Int)) (over : Int) (w : World) (h : IsRd w R s p d) (hs : s.size <= 1000000000) (hm0 : 9 <= most) (hm1 : most <= 9223372036854775808) (hst : isDig stop = false)
  (n k : Nat) (hx : dg most stop over true 0 (s.data.toList.drop p) = .ok (n,k)) :
  Calls Tryz.prog 244 #[.pointer (some ⟨R,0,none⟩),.int .u64 M,.int .u8 z,.int .i64 over] w fun e w'=>e = .returned (.tuple #[.int .u64 n,.int .i64 0]) /\ IsRd w' R s (p + k) d /\ w.grownBy w' (some R):=by
 subst hM hz
 have:=digits_any R s p d most stop over w h hs hm0 hm1 hst
 rw [hx] at this
 exact this
theorem is_z (R : Nat) (s : ByteArray) (p d : Nat) (c : UInt8) (z : Int) (hz : z = (c.toNat : Int)) (b : Bool) (w : World) (h : IsRd w R s p d) (hs : s.size <= 1000000000) (hb : b = ((s.data.toList.drop p).head? == some c)) : Calls Tryz.prog 224 #[.pointer (some ⟨R,0,none⟩),.int .u8 z] w (Quiet (.bool b) w):=by
 subst hz
 by_cases hp : p < s.size
 ·rw [drop_cons s p hp] at hb
  have:=is_in R s p d c s[p] w h hp hs rfl
  rw [hb]
  simpa using this
 ·rw [drop_nil s p hp] at hb
  have:=is_no R s p d c w h hp
  rw [hb]
  simpa using this
def NotErr (v : Value) : Prop:=(∃ x,v = .iface 3 x) \/ (∃ x,v = .iface 9 x) \/ (∃ x,v = .iface 303 x)
def VPost (res : Except Int (T × Nat)) (R : Nat) (s : ByteArray) (p d : Nat) (w : World) (e : Ending) (w' : World) : Prop :=
 match res with
 | .error x=>e = .returned (.iface 35 (.int .i64 x)) /\ w.grownBy w' (some R)
 | .ok (t,n)=>∃ v,e = .returned v /\ IsRd w' R s (p + n) d /\ w.grownBy w' (some R) /\ NotErr v /\ (p + n <= 65536 -> Hv (fun b=>w.heap.size <= b) w' t v)
theorem VPost.err {r : Except Int (T × Nat)} {x : Int} {R : Nat} {s : ByteArray} {p d : Nat} {w w' : World} {e : Ending} (h : r = .error x) (he : e = .returned (.iface 35 (.int .i64 x))) (hg : w.grownBy w' (some R)) : VPost r R s p d w e w':=by
 subst h
 exact ⟨he,hg⟩
theorem VPost.fine {r : Except Int (T × Nat)} {t : T} {n : Nat} {v : Value} {R : Nat} {s : ByteArray} {p d : Nat} {w w' : World} {e : Ending} (h : r = .ok (t,n)) (he : e = .returned v) (hi : IsRd w' R s (p + n) d) (hg : w.grownBy w' (some R)) (hn : NotErr v) (hv : p + n <= 65536 -> Hv (fun b=>w.heap.size <= b) w' t v) : VPost r R s p d w e w':=by
 subst h
 exact ⟨v,he,hi,hg,hn,hv⟩
theorem ret_if {a b : Int} (h : a = b) : Ending.returned (.iface 3 (.int .i64 a)) = .returned (.iface 3 (.int .i64 b)):=by rw [h]
theorem neg_u64 (n : Nat) (h : n <= 9223372036854775808) : wrap64 (IntKind.u64.wrap (-(n : Int))) = -(n : Int):=by
 unfold wrap64
 simp only [IntKind.wrap,IntKind.bits,IntKind.signed]
 simp
 omega
theorem num_hv (ok : Nat -> Prop) (w : World) (n : Int) : Hv ok w (.mk 1 n .empty []) (.iface 3 (.int .i64 n)):=by
 rw [Hv]
 exact .inl ⟨rfl,rfl⟩
theorem number_any (R : Nat) (s : ByteArray) (p d : Nat) (w : World) (h : IsRd w R s p d) (hs : s.size <= 1000000000) (hp : p < s.size) : Calls Tryz.prog 225 #[.pointer (some ⟨R,0,none⟩)] w (VPost (rdNum (s.data.toList.drop (p + 1))) R s p d w):=by
 have c1:=h.c1
 have f1:=h.f 1
 have hI2 : IsRd (w.setCell ⟨R,1,none⟩ (.int .i64 ((p : Int) + 1))) R s (p + 1) d:=h.set1 (p + 1)
 have hg2 : w.grownBy (w.setCell ⟨R,1,none⟩ (.int .i64 ((p : Int) + 1))) (some R):=grown_setCell (World.grownBy.refl w _) _ rfl _
 generalize hres : rdNum (s.data.toList.drop (p + 1)) = res
 by_cases h45 : (s.data.toList.drop (p + 1)).head? = some 45
 ·have hp1 : p + 1 < s.size:=by
   by_cases hx : p + 1 < s.size
   ·exact hx
   ·rw [drop_nil s _ hx] at h45;cases h45
  have HB : Hid (true = ((s.data.toList.drop (p + 1)).head? == some 45)):=Lib.hid (by rw [h45];rfl)
  rw [drop_cons s _ hp1] at h45 hres
  simp only [List.head?_cons,Option.some.injEq] at h45
  rw [h45,rdNum_minus] at hres
  clear h45
  have hp1' : p + 1 + 1 = p + 2:=by omega
  rw [hp1'] at hres
  clear hp1'
  have hI3 : ∀ q1 : Nat,IsRd (((w.setCell ⟨R,1,none⟩ (.int .i64 ((p : Int) + 1))).drewN q1).setCell ⟨R,1,none⟩ (.int .i64 ((p : Int) + 1 + 1))) R s (p + 2) d:=fun q1=>(hI2.drewN q1).set1 (p + 2)
  have hg3 : ∀ q1 : Nat,w.grownBy (((w.setCell ⟨R,1,none⟩ (.int .i64 ((p : Int) + 1))).drewN q1).setCell ⟨R,1,none⟩ (.int .i64 ((p : Int) + 1 + 1))) (some R):=fun q1=>grown_setCell (grown_drewN hg2 q1) _ rfl _
  have HI3:=Lib.hid hI3
  have HG3:=Lib.hid hg3
  clear hI3 hg3
  by_cases h48 : (s.data.toList.drop (p + 2)).head? = some 48
  ·rw [if_pos h48] at hres
   have HR : Hid (res = .error 20):=Lib.hid hres.symm
   have HB2 : Hid (true = ((s.data.toList.drop (p + 2)).head? == some 48)):=Lib.hid (by rw [h48];rfl)
   clear hres h48
   go_enter Tryz.func225,Tryz.ntmps225
   go_wp2_with fail
   refine (is_z R s (p + 1) d 45 _ rfl true _ hI2 hs HB.out).mono ?_
   rintro e w1 ⟨rfl,q1,rfl⟩
   have c1':=(hI2.drewN q1).c1
   have f1':=(hI2.drewN q1).f 1
   go_wp2_with fail
   refine (is_z R s (p + 2) d 48 _ rfl true _ (HI3.out q1) hs HB2.out).mono ?_
   rintro e w2 ⟨rfl,q2,rfl⟩
   go_wp2_with fail
   go_ret
   exact VPost.err HR.out rfl (grown_drewN (HG3.out q1) _)
  ·rw [if_neg h48] at hres
   have HB2 : Hid (false = ((s.data.toList.drop (p + 2)).head? == some 48)):=Lib.hid (by
    rw [eq_comm,Bool.eq_false_iff]
    simpa using h48)
   clear h48
   rcases hx : dg 9223372036854775808 101 20 true 0 (s.data.toList.drop (p + 2)) with x | ⟨n,k⟩
   ·rw [hx] at hres
    have HR : Hid (res = .error x):=Lib.hid hres.symm
    have HX:=Lib.hid hx
    have hxs:=dg_errs _ _ _ _ _ _ _ hx
    clear hres hx
    rcases hxs with rfl | rfl | rfl
    all_goals
     go_enter Tryz.func225,Tryz.ntmps225
     go_wp2_with fail
     refine (is_z R s (p + 1) d 45 _ rfl true _ hI2 hs HB.out).mono ?_
     rintro e w1 ⟨rfl,q1,rfl⟩
     have c1':=(hI2.drewN q1).c1
     have f1':=(hI2.drewN q1).f 1
     go_wp2_with fail
     refine (is_z R s (p + 2) d 48 _ rfl false _ (HI3.out q1) hs HB2.out).mono ?_
     rintro e w2 ⟨rfl,q2,rfl⟩
     go_wp2_with fail
     refine (digits_err R s (p + 2) d 9223372036854775808 _ rfl 101 _ rfl 20 _ ((HI3.out q1).drewN _) hs (by decide) (by decide) (by decide) _ HX.out).mono ?_
     rintro e w3 ⟨rfl,hg4⟩
     go_wp2_with fail
     go_ret
     exact VPost.err HR.out rfl (grown_then (grown_drewN (HG3.out q1) _) hg4)
   ·rw [hx] at hres
    have hn:=(dg_inv _ _ _ nd101 _ _ _ _ _ (fun _=>rfl) (by omega) hx).1
    have hnz : (n : Int) <= 9223372036854775808:=by omega
    have hn0 : 0 <= (n : Int):=by omega
    have HR : Hid (res = .ok (.mk 1 (-(n : Int)) .empty [],k + 2)):=Lib.hid hres.symm
    have HX:=Lib.hid hx
    have HN:=Lib.hid hn
    clear hres hx hn
    go_enter Tryz.func225,Tryz.ntmps225
    go_wp2_with fail
    refine (is_z R s (p + 1) d 45 _ rfl true _ hI2 hs HB.out).mono ?_
    rintro e w1 ⟨rfl,q1,rfl⟩
    have c1':=(hI2.drewN q1).c1
    have f1':=(hI2.drewN q1).f 1
    go_wp2_with fail
    refine (is_z R s (p + 2) d 48 _ rfl false _ (HI3.out q1) hs HB2.out).mono ?_
    rintro e w2 ⟨rfl,q2,rfl⟩
    go_wp2_with fail
    refine (digits_ok R s (p + 2) d 9223372036854775808 _ rfl 101 _ rfl 20 _ ((HI3.out q1).drewN _) hs (by decide) (by decide) (by decide) _ _ HX.out).mono ?_
    rintro e w3 ⟨rfl,hI4,hg4⟩
    go_wp2_with fail
    go_ret
    refine VPost.fine (v:=.iface 3 (.int .i64 (-(n : Int)))) HR.out ?_ ?_ (grown_then (grown_drewN (HG3.out q1) _) hg4) (.inl ⟨_,rfl⟩) (fun _=>num_hv _ _ _)
    ·exact ret_if (neg_u64 n HN.out)
    ·rw [show p + (k + 2) = p + 2 + k by omega]
     exact hI4
 ·rw [rdNum_plus _ h45] at hres
  have HB : Hid (false = ((s.data.toList.drop (p + 1)).head? == some 45)):=Lib.hid (by
   rw [eq_comm,Bool.eq_false_iff]
   simpa using h45)
  clear h45
  rcases hx : dg 9223372036854775807 101 20 true 0 (s.data.toList.drop (p + 1)) with x | ⟨n,k⟩
  ·rw [hx] at hres
   have HR : Hid (res = .error x):=Lib.hid hres.symm
   have HX:=Lib.hid hx
   have hxs:=dg_errs _ _ _ _ _ _ _ hx
   clear hres hx
   rcases hxs with rfl | rfl | rfl
   all_goals
    go_enter Tryz.func225,Tryz.ntmps225
    go_wp2_with (first
     | (go_at_call 224;refine (is_z R s (p + 1) d 45 _ rfl false _ hI2 hs HB.out).mono ?_;rintro e w1 ⟨rfl,q1,rfl⟩)
     | (go_at_call 244;refine (digits_err R s (p + 1) d 9223372036854775807 _ rfl 101 _ rfl 20 _ (hI2.drewN _) hs (by decide) (by decide) (by decide) _ HX.out).mono ?_;rintro e w2 ⟨rfl,hg3⟩))
    go_ret
    exact VPost.err HR.out rfl (grown_then hg2 (grown_then (grown_drewN (World.grownBy.refl _ _) _) hg3))
  ·rw [hx] at hres
   have hn:=(dg_inv _ _ _ nd101 _ _ _ _ _ (fun _=>rfl) (by omega) hx).1
   have hnz : (n : Int) <= 9223372036854775807:=by omega
   have hn0 : 0 <= (n : Int):=by omega
   have HR : Hid (res = .ok (.mk 1 n .empty [],k + 1)):=Lib.hid hres.symm
   have HX:=Lib.hid hx
   clear hres hx hn
   go_enter Tryz.func225,Tryz.ntmps225
   go_wp2_with (first
    | (go_at_call 224;refine (is_z R s (p + 1) d 45 _ rfl false _ hI2 hs HB.out).mono ?_;rintro e w1 ⟨rfl,q1,rfl⟩)
    | (go_at_call 244;refine (digits_ok R s (p + 1) d 9223372036854775807 _ rfl 101 _ rfl 20 _ (hI2.drewN _) hs (by decide) (by decide) (by decide) _ _ HX.out).mono ?_;rintro e w2 ⟨rfl,hI3,hg3⟩))
   go_ret
   refine VPost.fine HR.out rfl ?_ (grown_then hg2 (grown_then (grown_drewN (World.grownBy.refl _ _) _) hg3)) (.inl ⟨_,rfl⟩) (fun _=>num_hv _ _ _)
   rw [show p + (k + 1) = p + 1 + k by omega]
   exact hI3
theorem text_hv (ok : Nat -> Prop) (w : World) (s : ByteArray) : Hv ok w (.mk 2 0 s []) (.iface 9 (.string s)):=by
 rw [Hv]
 exact .inr (.inl ⟨rfl,rfl⟩)
theorem extract_eq (s : ByteArray) (a n : Nat) (h : a + n <= s.size) : s.extract a (a + n) = ⟨((s.data.toList.drop a).take n).toArray⟩:=by
 apply ByteArray.ext
 rw [ByteArray.data_extract]
 apply Array.toList_inj.1
 simp
theorem text_any (R : Nat) (s : ByteArray) (p d : Nat) (w : World) (h : IsRd w R s p d) (hs : s.size <= 1000000000) (hp : p < s.size) : Calls Tryz.prog 228 #[.pointer (some ⟨R,0,none⟩)] w (VPost (rdText (s.data.toList.drop p)) R s p d w):=by
 generalize hres : rdText (s.data.toList.drop p) = res
 unfold rdText at hres
 rcases hx : dg 65536 58 23 true 0 (s.data.toList.drop p) with x | ⟨n,k⟩
 ·rw [hx] at hres
  have HR : Hid (res = .error x):=Lib.hid hres.symm
  have HX:=Lib.hid hx
  have hxs:=dg_errs _ _ _ _ _ _ _ hx
  clear hres hx
  rcases hxs with rfl | rfl | rfl
  all_goals
   go_enter Tryz.func228,Tryz.ntmps228
   go_wp2_with fail
   refine (digits_err R s p d 65536 _ rfl 58 _ rfl 23 _ h hs (by decide) (by decide) (by decide) _ HX.out).mono ?_
   rintro e w3 ⟨rfl,hg4⟩
   go_wp2_with fail
   go_ret
   exact VPost.err HR.out rfl hg4
 ·rw [hx] at hres
  have hinv:=dg_inv _ _ _ nd58 _ _ _ _ _ (fun _=>rfl) (by omega) hx
  have hn : n <= 65536:=hinv.1
  have hk : p + k <= s.size:=by
   have:=hinv.2.2.1
   simp at this
   omega
  have hl : ((s.data.toList.drop p).drop k).length = s.size - (p + k):=by
   rw [List.drop_drop,List.length_drop]
   simp
  have HX:=Lib.hid hx
  simp only [hl] at hres
  clear hx hinv hl
  by_cases hsh : s.size - (p + k) < n
  ·rw [if_pos hsh] at hres
   have HR : Hid (res = .error 21):=Lib.hid hres.symm
   clear hres
   have hz : (s.size : Int) - ((p + k : Nat) : Int) < (n : Int):=by omega
   generalize hG : p + k = G at *
   have HG:=Lib.hid hG
   clear hG
   go_enter Tryz.func228,Tryz.ntmps228
   go_wp2_with fail
   refine (digits_ok R s p d 65536 _ rfl 58 _ rfl 23 _ h hs (by decide) (by decide) (by decide) _ _ HX.out).mono ?_
   rintro e w3 ⟨rfl,hI4,hg4⟩
   rw [HG.out] at hI4
   have c0:=hI4.c0
   have c1:=hI4.c1
   go_wp2_with fail
   go_ret
   exact VPost.err HR.out rfl hg4
  ·rw [if_neg hsh,List.drop_drop] at hres
   have HR : Hid (res = .ok (.mk 2 0 (s.extract (p + k) (p + k + n)) [],k + n)):=Lib.hid (by rw [extract_eq s (p + k) n (by omega)];exact hres.symm)
   clear hres
   have hz : ¬ (s.size : Int) - ((p + k : Nat) : Int) < (n : Int):=by omega
   generalize hG : p + k = G at *
   have HG:=Lib.hid hG
   clear hG
   have hq : G + n <= s.size:=by omega
   go_enter Tryz.func228,Tryz.ntmps228
   go_wp2_with fail
   refine (digits_ok R s p d 65536 _ rfl 58 _ rfl 23 _ h hs (by decide) (by decide) (by decide) _ _ HX.out).mono ?_
   rintro e w3 ⟨rfl,hI4,hg4⟩
   rw [HG.out] at hI4
   have c0:=hI4.c0
   have c1:=hI4.c1
   have f1:=hI4.f 1
   go_wp2_with fail
   have hI5 : IsRd (w3.setCell ⟨R,1,none⟩ (.int .i64 ((G : Int) + (n : Int)))) R s (G + n) d:=hI4.set1 (G + n)
   have c0':=hI5.c0
   have c1':=hI5.c1
   go_quiet (fail)
   go_wp2_with fail
   go_ret
   refine VPost.fine HR.out rfl ?_ (grown_setCell (grown_then hg4 (World.grownBy.refl _ _)) _ rfl _ |> fun h=>grown_drewN h _) (.inr (.inl ⟨_,rfl⟩)) (fun _=>text_hv _ _ _)
   rw [show p + (k + n) = G + n by have:=HG.out;omega]
   exact hI5.drewN _
end
end Be
namespace Be
section
open Go Go.RowKit
def prep (ts : List T) (n : Nat) : Except Int (List T × Nat) -> Except Int (List T × Nat)
 | .error e=>.error e
 | .ok (us,m)=>.ok (ts ++ us,n + m)
theorem prep_nil (r : Except Int (List T × Nat)) : prep [] 0 r = r:=by rcases r with e | ⟨us,m⟩ <;> simp [prep]
theorem prep_step (ts : List T) (k : Nat) (bs : List UInt8) (w : Nat) (c : UInt8) (r : List UInt8) (hbs : bs = c :: r) (hc : c ≠ 101) (t : T) (n : Nat) (hn : 1 <= n) (h : rd bs w = .ok (t,n)) : prep ts k (rdL bs w) = prep (ts ++ [t]) (k + n) (rdL (bs.drop n) w):=by
 subst hbs
 rw [rdL_c _ _ _ hc,h]
 obtain ⟨n,rfl⟩ : ∃ n',n = n' + 1:=⟨n - 1,by omega⟩
 rw [List.drop_succ_cons]
 simp only [Nat.add_sub_cancel]
 rcases rdL (r.drop n) w with e | ⟨us,m⟩
 ·rfl
 ·simp [prep,Nat.add_assoc]
theorem prep_err (ts : List T) (k : Nat) (bs : List UInt8) (w : Nat) (c : UInt8) (r : List UInt8) (hbs : bs = c :: r) (hc : c ≠ 101) (x : Int) (h : rd bs w = .error x) : prep ts k (rdL bs w) = .error x:=by
 subst hbs
 rw [rdL_c _ _ _ hc,h]
 rfl
theorem own_lt {w : World} {base : Nat} {e : TypeId} {size : Nat} {v : Value} {n : Nat} {xs : List Value} (h : w.ownsRow base e size v n xs) : ∀ k,v.ownBlock = some k -> base <= k /\ k < w.heap.size:=fun k hk=>⟨(h.lt k hk).1,(h.lt k hk).2⟩
theorem NotErr.form {v : Value} (h : NotErr v) : ∃ k x,v = .iface k x /\ ∀ w,(Instr.typeAssert (.iface k x) 20 35 true).run Tryz.prog w = .ok (.tuple #[.int .i64 0,.bool false]) w:=by
 rcases h with ⟨x,rfl⟩ | ⟨x,rfl⟩ | ⟨x,rfl⟩
 ·exact ⟨_,_,rfl,as_3_27 x⟩
 ·exact ⟨_,_,rfl,as_9_27 x⟩
 ·exact ⟨_,_,rfl,as_63_27 x⟩
structure LRel (res : Except Int (List T × Nat)) (R : Nat) (s : ByteArray) (p d B : Nat) (w0 : World) (v : Value) (wr : World) (g m : Nat) (ts : List T) (xs : List Value) : Prop where
 at_ : IsRd wr R s g d
 lo : p <= g
 hi : g <= s.size
 grown : w0.grownBy wr (some R)
 own : wr.ownsRow B 20 1 v m xs
 few : m <= g
 rest : res = prep ts (g - p) (rdL (s.data.toList.drop g) d)
 held : g <= 65536 -> m = ts.length /\ HvL (fun b=>B <= b /\ some b ≠ v.ownBlock) wr ts xs
theorem list_end {rl : Except Int (List T × Nat)} {res : Except Int (T × Nat)} {R : Nat} {s : ByteArray} {p d : Nat} {w wr W : World} {v : Value} {g m : Nat} {ts : List T} {xs : List Value} {e : Ending}
  (hRlt : R < w.heap.size) (hL : LRel rl R s (p + 1) (d + 1) w.heap.size w v wr g m ts xs) (hres : res = .ok (.mk 3 0 .empty ts,g - p + 1)) (he : e = .returned (.iface 303 v)) (hI : IsRd W R s (g + 1) d) (hg : wr.grownBy W (some R)) (hs : s.size <= 1000000000) : VPost res R s p d w e W:=by
 have hlo:=hL.lo
 refine VPost.fine hres he (by rw [show p + (g - p + 1) = g + 1 by omega];exact hI) (grown_then hL.grown hg) (.inr (.inr ⟨_,rfl⟩)) fun hle=>?_
 obtain ⟨hm,hv⟩:=hL.held (by omega)
 have hown:=hL.own
 obtain ⟨A,c,rfl,hc1,hc2⟩:=own_shape hown
 have hr:=ReadsP.of_own hown
 have hk : Keeps (fun b=>w.heap.size <= b) wr W:=Keeps.of_grown hg (fun b hb he=>by injection he;omega)
 have hfew:=hL.few
 have hhi:=hL.hi
 subst hm
 rw [Hv]
 exact .inr (.inr ⟨rfl,A,c,xs,rfl,by omega,hr.keep hk,HvL.keep hk _ _ (HvL.mono (fun b hb _=>hb.1) _ _ hv)⟩)
theorem list_more {rl : Except Int (List T × Nat)} {R : Nat} {s : ByteArray} {p d B : Nat} {w wr w1 w2 : World} {v v' y : Value} {g m n : Nat} {ts : List T} {xs : List Value} {t : T}
  (hL : LRel rl R s p d B w v wr g m ts xs) (hR : R < B) (hB : B <= wr.heap.size) (hBw : w.heap.size <= B) (hc : ∃ c r,s.data.toList.drop g = c :: r /\ c ≠ 101) (hrd : rd (s.data.toList.drop g) d = .ok (t,n)) (hd : d <= 8)
  (hI1 : IsRd w1 R s (g + n) d) (hg1 : wr.grownBy w1 (some R)) (hv : g + n <= 65536 -> Hv (fun b=>wr.heap.size <= b) w1 t y)
  (hown : w2.ownsRow B 20 1 v' (m + 1) (xs ++ [y])) (hgr : w1.grownBy w2 v.ownBlock) (hb : v'.ownBlock = v.ownBlock \/ ∀ k,v'.ownBlock = some k -> w1.heap.size <= k) : LRel rl R s p d B w v' w2 (g + n) (m + 1) (ts ++ [t]) (xs ++ [y]):=by
 obtain ⟨c,r,hcr,hne⟩:=hc
 have hinv:=rd_inv hd hrd
 have hge:=hinv.ge
 have hle:=hinv.le
 rw [List.length_drop] at hle
 simp at hle
 have hlo:=hL.lo
 have hhi:=hL.hi
 have hfew:=hL.few
 have hlt:=own_lt hL.own
 have hnR : v.ownBlock ≠ some R:=fun e=>by have:=(hlt _ e).1;omega
 refine ⟨?_,by omega,by omega,?_,hown,by omega,?_,fun hle2=>?_⟩
 ·exact hI1.of (hgr.block R hI1.lt (fun e=>hnR e.symm))
 ·refine grown_then_far (grown_then hL.grown hg1) hgr fun k hk=>.inr ?_
  have:=(hlt k hk).1
  omega
 ·rw [hL.rest,prep_step ts (g - p) _ d c r hcr hne t n (by omega) hrd,List.drop_drop]
  congr 1
  omega
 ·obtain ⟨h1,h2⟩:=hL.held (by omega)
  refine ⟨by simp [h1],HvL.snoc ?_ ?_⟩
  ·have k2 : Keeps (fun b=>wr.heap.size <= b /\ b < w1.heap.size) w1 w2:=Keeps.of_grown hgr (fun b hb e=>by have:=(hlt _ e.symm).2;omega)
   have h3:=Hv.mono (ok':=fun b=>wr.heap.size <= b /\ b < w1.heap.size) (fun b hb hl=>⟨hb,hl⟩) _ _ (hv hle2)
   refine Hv.mono ?_ _ _ (Hv.keep k2 _ _ h3)
   intro b hb' _
   refine ⟨by omega,fun e=>?_⟩
   rcases hb with h5 | h5
   ·have:=(hlt _ (h5.symm.trans e.symm)).2;omega
   ·have:=h5 b e.symm;omega
  ·have k1 : Keeps (fun b=>B <= b /\ some b ≠ v.ownBlock) wr w1:=Keeps.of_grown hg1 (fun b hb e=>by injection e;omega)
   have h3:=HvL.keep k1 _ _ h2
   have k2 : Keeps (fun b=>(B <= b /\ some b ≠ v.ownBlock) /\ b < w1.heap.size) w1 w2:=Keeps.of_grown hgr (fun b hb e=>hb.1.2 e)
   have h4:=HvL.mono (ok':=fun b=>(B <= b /\ some b ≠ v.ownBlock) /\ b < w1.heap.size) (fun b hb hl=>⟨hb,hl⟩) _ _ h3
   refine HvL.mono ?_ _ _ (HvL.keep k2 _ _ h4)
   intro b hb' _
   refine ⟨hb'.1.1,fun e=>?_⟩
   rcases hb with h5 | h5
   ·exact hb'.1.2 (e.trans h5)
   ·have:=h5 b e.symm;omega
theorem list_skip {rl : Except Int (List T × Nat)} {R : Nat} {s : ByteArray} {p d B : Nat} {w wr w1 : World} {v : Value} {g m n : Nat} {ts : List T} {xs : List Value} {t : T}
  (hL : LRel rl R s p d B w v wr g m ts xs) (hBw : w.heap.size <= B) (hc : ∃ c r,s.data.toList.drop g = c :: r /\ c ≠ 101) (hrd : rd (s.data.toList.drop g) d = .ok (t,n)) (hd : d <= 8)
  (hI1 : IsRd w1 R s (g + n) d) (hg1 : wr.grownBy w1 (some R)) (hown : w1.ownsRow B 20 1 v m xs) (hle : ¬ g + n <= 65536) : ∃ ts',LRel rl R s p d B w v w1 (g + n) m ts' xs:=by
 obtain ⟨c,r,hcr,hne⟩:=hc
 have hinv:=rd_inv hd hrd
 have hge:=hinv.ge
 have hl:=hinv.le
 rw [List.length_drop] at hl
 simp at hl
 have hlo:=hL.lo
 have hhi:=hL.hi
 have hfew:=hL.few
 refine ⟨ts ++ [t],hI1,by omega,by omega,grown_then hL.grown hg1,hown,by omega,?_,fun h=>absurd h hle⟩
 rw [hL.rest,prep_step ts (g - p) _ d c r hcr hne t n (by omega) hrd,List.drop_drop]
 congr 1
 omega
theorem list_of (N : Nat) (R : Nat) (s : ByteArray) (hs : s.size <= 1000000000)
  (ih : ∀ (p d : Nat) (w : World),IsRd w R s p d -> s.size - p < N -> d <= 8 -> Calls Tryz.prog 208 #[.pointer (some ⟨R,0,none⟩)] w (VPost (rd (s.data.toList.drop p) d) R s p d w))
  (p d : Nat) (w : World) (h : IsRd w R s p d) (hN : s.size - p <= N) (hd : d <= 8) (hp : p < s.size) (hl : s[p] = 108) :
  Calls Tryz.prog 226 #[.pointer (some ⟨R,0,none⟩)] w (VPost (rd (s.data.toList.drop p) d) R s p d w):=by
 have hRlt:=h.lt
 have c2:=h.c2
 have c1:=h.c1
 have f1:=h.f 1
 generalize hres : rd (s.data.toList.drop p) d = res
 rw [drop_cons s p hp,hl] at hres
 by_cases h8 : d = 8
 ·subst h8
  have HR : Hid (res = .error 22):=Lib.hid (by rw [<- hres,rd,if_neg (by decide),if_neg (by decide),if_pos rfl,if_pos (by omega)])
  clear hres
  go_enter Tryz.func226,Tryz.ntmps226
  go_wp2_with fail
  go_ret
  exact VPost.err HR.out rfl (World.grownBy.refl w _)
 ·have hd7 : d < 8:=by omega
  have h8' : ((d : Int) == 8) = false:=by
   rw [Bool.eq_false_iff,Ne,beq_iff_eq]
   omega
  rw [rd_l _ _ hd7] at hres
  generalize hrl : rdL (s.data.toList.drop (p + 1)) (d + 1) = rl at hres
  have HRL:=Lib.hid hrl
  have HR:=Lib.hid hres
  have HL:=Lib.hid hl
  clear hrl hres hl h8
  have hI2 : IsRd (w.setCell ⟨R,1,none⟩ (.int .i64 ((p : Int) + 1))) R s (p + 1) d:=h.set1 (p + 1)
  have c2':=hI2.c2
  have f2':=hI2.f 2
  have hI3 : IsRd ((w.setCell ⟨R,1,none⟩ (.int .i64 ((p : Int) + 1))).setCell ⟨R,2,none⟩ (.int .i64 ((d : Int) + 1))) R s (p + 1) (d + 1):=hI2.set2 (d + 1)
  have hg3 : w.grownBy ((w.setCell ⟨R,1,none⟩ (.int .i64 ((p : Int) + 1))).setCell ⟨R,2,none⟩ (.int .i64 ((d : Int) + 1))) (some R):=grown_setCell (R:=R) (grown_setCell (R:=R) (World.grownBy.refl w _) ⟨R,1,none⟩ rfl _) ⟨R,2,none⟩ rfl _
  have hsz3 : ((w.setCell ⟨R,1,none⟩ (.int .i64 ((p : Int) + 1))).setCell ⟨R,2,none⟩ (.int .i64 ((d : Int) + 1))).heap.size = w.heap.size:=by simp
  go_enter Tryz.func226,Tryz.ntmps226
  go_wp2_with fail
  generalize (w.setCell ⟨R,1,none⟩ (.int .i64 ((p : Int) + 1))).setCell ⟨R,2,none⟩ (.int .i64 ((d : Int) + 1)) = w3 at hI3 hg3 hsz3
  clear c2' f2' hI2
  go_loopw [3] (fun v wr=>∃ (g m : Nat) (ts : List T) (xs : List Value),LRel rl R s (p + 1) (d + 1) w.heap.size w v wr g m ts xs) (fun _ wr=>match wr.cell? ⟨R,1,none⟩ with | some (.int _ i)=>s.size - i.toNat | _=>0)
  case atStart=>exact ⟨p + 1,0,[],[],hI3,Nat.le_refl _,by omega,hg3,World.ownsRow_nil ..,by omega,by rw [Nat.sub_self,prep_nil];exact HRL.out.symm,fun _=>⟨rfl,rfl⟩⟩
  case round =>
   obtain ⟨g,m,ts,xs,hL⟩:=hrel
   have hI:=hL.at_
   by_cases hlt : g < s.size
   ·by_cases h101 : s[g] = 101
    ·have HE : Hid (rl = .ok (ts,g - p)):=Lib.hid (by
      rw [hL.rest,drop_cons s g hlt,h101,rdL_e]
      have:=hL.lo
      simp only [prep,List.append_nil]
      congr 2
      omega)
     have HB : Hid (s[g] = 101):=Lib.hid h101
     clear h101
     go_wp2_with fail
     refine (more_yes R s g (d + 1) _ hI hlt).mono ?_
     rintro e w1 ⟨rfl,q1,rfl⟩
     go_wp2_with fail
     refine (is_z R s g (d + 1) 101 _ rfl true _ (hI.drewN q1) hs (by rw [drop_cons s g hlt,HB.out];rfl)).mono ?_
     rintro e w2 ⟨rfl,q2,rfl⟩
     go_wp2_with fail
     refine (more_yes R s g (d + 1) _ (hI.drewN _) hlt).mono ?_
     rintro e w3' ⟨rfl,q3,rfl⟩
     have hIq:=hI.drewN (q1 + q2 + q3)
     have k1:=hIq.c1
     have g1:=hIq.f 1
     have k2 : wr.cell? ⟨R,2,none⟩ = some (.int .i64 ((d : Int) + 1)):=hI.c2
     have g2:=hIq.f 2
     go_wp2_with fail
     go_ret
     exact list_end hRlt hL (by rw [<- HR.out,HE.out]) rfl ((hIq.set1 (g + 1)).set2 d) (grown_setCell (R:=R) (grown_setCell (R:=R) (grown_drewN (World.grownBy.refl _ _) _) ⟨R,1,none⟩ rfl _) ⟨R,2,none⟩ rfl _) hs
    ·have hc : ∃ c r,s.data.toList.drop g = c :: r /\ c ≠ 101:=⟨_,_,drop_cons s g hlt,h101⟩
     have HC:=Lib.hid hc
     have HB : Hid (false = ((s.data.toList.drop g).head? == some 101)):=Lib.hid (by
      rw [drop_cons s g hlt,eq_comm,Bool.eq_false_iff]
      simpa using h101)
     clear hc h101
     have hlo:=hL.lo
     have hd1 : d + 1 <= 8:=by omega
     rcases hx : rd (s.data.toList.drop g) (d + 1) with x | ⟨t,n⟩
     ·have HX:=Lib.hid hx
      clear hx
      have HE : Hid (res = .error x):=Lib.hid (by
       obtain ⟨c,r,h1,h2⟩:=HC.out
       rw [<- HR.out,hL.rest,prep_err ts _ _ _ c r h1 h2 x HX.out])
      go_wp2_with fail
      refine (more_yes R s g (d + 1) _ hI hlt).mono ?_
      rintro e w1 ⟨rfl,q1,rfl⟩
      go_wp2_with fail
      refine (is_z R s g (d + 1) 101 _ rfl false _ (hI.drewN q1) hs HB.out).mono ?_
      rintro e w2 ⟨rfl,q2,rfl⟩
      go_wp2_with fail
      refine (ih g (d + 1) _ (hI.drewN _) (by omega) hd1).mono ?_
      rw [HX.out]
      rintro e w3' ⟨rfl,hg4⟩
      have as0:=as_27_27 (.int .i64 x) w3'
      go_wp2_with fail
      go_ret
      exact VPost.err HE.out rfl (grown_then (grown_drewN hL.grown _) hg4)
     ·have HX:=Lib.hid hx
      clear hx
      go_wp2_with fail
      refine (more_yes R s g (d + 1) _ hI hlt).mono ?_
      rintro e w1 ⟨rfl,q1,rfl⟩
      go_wp2_with fail
      refine (is_z R s g (d + 1) 101 _ rfl false _ (hI.drewN q1) hs HB.out).mono ?_
      rintro e w2 ⟨rfl,q2,rfl⟩
      go_wp2_with fail
      refine (ih g (d + 1) _ (hI.drewN _) (by omega) hd1).mono ?_
      rw [HX.out]
      rintro e w4 ⟨y,rfl,hI4,hg4,hne,hv4⟩
      have k1:=hI4.c1
      have hBw : w.heap.size <= w4.heap.size:=Nat.le_trans hL.grown.size hg4.size
      have hown4 : w4.ownsRow w.heap.size 20 1 u3 m xs:=(show (wr.drewN (q1 + q2)).ownsRow w.heap.size 20 1 u3 m xs from hL.own).kept hg4 (.inr (fun e=>by have:=(own_lt hL.own _ e).1;omega))
      have hg5 : wr.grownBy w4 (some R):=grown_then (grown_drewN (World.grownBy.refl _ _) _) hg4
      have hm : m <= 1000000000:=by have:=hL.few;have:=hL.hi;omega
      have hgn : g < g + n:=by have:=(rd_inv hd1 HX.out).ge;omega
      have hkm:=hI.c1
      obtain ⟨ky,y',rfl,has⟩:=hne.form
      have as0:=has w4
      clear has hne
      by_cases hle : g + n <= 65536
      ·have hlez : ((g + n : Nat) : Int) <= 65536:=by omega
       go_wp2_with (at_builtin;refine append_iface rfl (.tmp 49) (.tmp 51) rfl w.heap.size _ m _ _ rfl rfl hown4 rfl hm hBw ?_;intro v' w5 hown5 hgr5 hob5)
       go_roundw
       case rel=>exact ⟨g + n,m + 1,ts ++ [t],_,list_more hL hRlt hL.grown.size (Nat.le_refl _) HC.out HX.out hd1 hI4 hg5 hv4 hown5 hgr5 hob5⟩
       case measure =>
        have hI5:=(list_more hL hRlt hL.grown.size (Nat.le_refl _) HC.out HX.out hd1 hI4 hg5 hv4 hown5 hgr5 hob5).at_.c1
        rw [hI5,hkm]
        simp
        omega
      ·have hlez : ¬ ((g + n : Nat) : Int) <= 65536:=by omega
       go_wp2_with fail
       go_roundw
       case rel =>
        obtain ⟨ts',hL'⟩:=list_skip hL (Nat.le_refl _) HC.out HX.out hd1 hI4 hg5 hown4 hle
        exact ⟨g + n,m,ts',xs,hL'⟩
       case measure =>
        rw [k1,hkm]
        simp
        omega
   ·have HE : Hid (res = .error 21):=Lib.hid (by
     rw [<- HR.out,hL.rest,drop_nil s g hlt,rdL]
     rfl)
    go_wp2_with fail
    refine (more_no R s g (d + 1) _ hI hlt).mono ?_
    rintro e w1 ⟨rfl,q1,rfl⟩
    go_wp2_with fail
    refine (more_no R s g (d + 1) _ (hI.drewN q1) hlt).mono ?_
    rintro e w2 ⟨rfl,q2,rfl⟩
    go_wp2_with fail
    go_ret
    exact VPost.err HE.out rfl (grown_drewN hL.grown _)
end
end Be
namespace Be
section
open Go Go.RowKit
theorem VPost.far {r : Except Int (T × Nat)} {R : Nat} {s : ByteArray} {p d : Nat} {w w1 w' : World} {e : Ending} (h : VPost r R s p d w1 e w') (hg : w.grownBy w1 (some R)) (hw : w.heap.size <= w1.heap.size) : VPost r R s p d w e w':=by
 rcases r with x | ⟨t,n⟩
 ·exact ⟨h.1,grown_then hg h.2⟩
 ·obtain ⟨v,he,hi,hgg,hn,hv⟩:=h
  exact ⟨v,he,hi,grown_then hg hgg,hn,fun hle=>Hv.mono (fun b hb _=>Nat.le_trans hw hb) _ _ (hv hle)⟩
theorem VPost.ret {r : Except Int (T × Nat)} {R : Nat} {s : ByteArray} {p d : Nat} {w w' : World} {e : Ending} (h : VPost r R s p d w e w') : ∃ v,e = .returned v /\ VPost r R s p d w (.returned v) w':=by
 rcases r with x | ⟨t,n⟩
 ·obtain ⟨rfl,h2⟩:=h
  exact ⟨_,rfl,rfl,h2⟩
 ·obtain ⟨v,rfl,hi⟩:=h
  exact ⟨_,rfl,v,rfl,hi⟩
theorem isDigit_q (c : UInt8) (b : Bool) (hb : isDig c = b) (w : World) (a n : Nat) : Calls Tryz.prog 227 #[.int .u8 (c.toNat : Int)] (w.drewN (a + n)) fun e w''=>e = .returned (.bool b) /\ ∃ m,w'' = w.drewN (a + m) :=
 (isDigit_any c _).mono fun e w' ⟨h1,h2⟩=>⟨by rw [h1,hb],n,h2.symm⟩
theorem value_of (R : Nat) (s : ByteArray) (hs : s.size <= 1000000000) (N : Nat) : ∀ (p d : Nat) (w : World),IsRd w R s p d -> s.size - p < N -> d <= 8 -> Calls Tryz.prog 208 #[.pointer (some ⟨R,0,none⟩)] w (VPost (rd (s.data.toList.drop p) d) R s p d w):=by
 induction N with
 | zero=>intro p d w _ h;omega
 | succ N ih =>
  intro p d w h hN hd
  by_cases hp : p < s.size
  ·have hcons:=Lib.hid (drop_cons s p hp)
   have c0:=h.c0
   have c1:=h.c1
   have hpz : (p : Int) < (s.size : Int):=by omega
   generalize hres : rd (s.data.toList.drop p) d = res
   by_cases hi : s[p] = 105
   ·have HB : Hid (true = ((s.data.toList.drop p).head? == some 105)):=Lib.hid (by rw [hcons.out,hi];rfl)
    have HR : Hid (rdNum (s.data.toList.drop (p + 1)) = res):=Lib.hid (by rw [<- hres,hcons.out,hi,rd_i])
    clear hi hres
    go_enter Tryz.func208,Tryz.ntmps208
    go_wp2_with fail
    refine (more_yes R s p d _ h hp).mono ?_
    rintro e w1 ⟨rfl,q1,rfl⟩
    go_wp2_with fail
    refine (is_z R s p d 105 _ rfl true _ (h.drewN q1) hs HB.out).mono ?_
    rintro e w2 ⟨rfl,q2,rfl⟩
    go_wp2_with fail
    refine (number_any R s p d _ (h.drewN _) hs hp).mono ?_
    rw [HR.out]
    intro e w3 hv
    obtain ⟨v,rfl,hv2⟩:=(hv.far (grown_drewN (World.grownBy.refl w _) _) (Nat.le_refl _)).ret
    clear hv
    go_wp2_with fail
    go_ret
    exact hv2
   ·have HB : Hid (false = ((s.data.toList.drop p).head? == some 105)):=Lib.hid (by
     rw [hcons.out,eq_comm,Bool.eq_false_iff]
     simpa using hi)
    by_cases hl : s[p] = 108
    ·have HB2 : Hid (true = ((s.data.toList.drop p).head? == some 108)):=Lib.hid (by rw [hcons.out,hl];rfl)
     have HL:=Lib.hid hl
     have HR : Hid (rd (s.data.toList.drop p) d = res):=Lib.hid hres
     clear hi hres hl
     go_enter Tryz.func208,Tryz.ntmps208
     go_wp2_with fail
     refine (more_yes R s p d _ h hp).mono ?_
     rintro e w1 ⟨rfl,q1,rfl⟩
     go_wp2_with fail
     refine (is_z R s p d 105 _ rfl false _ (h.drewN q1) hs HB.out).mono ?_
     rintro e w2 ⟨rfl,q2,rfl⟩
     go_wp2_with fail
     refine (is_z R s p d 108 _ rfl true _ (h.drewN _) hs HB2.out).mono ?_
     rintro e w3 ⟨rfl,q3,rfl⟩
     go_wp2_with fail
     refine (list_of N R s hs (fun p' d' w' a b c=>ih p' d' w' a b c) p d _ (h.drewN _) (by omega) hd hp HL.out).mono ?_
     rw [HR.out]
     intro e w4 hv
     obtain ⟨v,rfl,hv2⟩:=(hv.far (grown_drewN (World.grownBy.refl w _) _) (Nat.le_refl _)).ret
     clear hv
     go_wp2_with fail
     go_ret
     exact hv2
    ·have HB2 : Hid (false = ((s.data.toList.drop p).head? == some 108)):=Lib.hid (by
      rw [hcons.out,eq_comm,Bool.eq_false_iff]
      simpa using hl)
     cases hdig : isDig s[p] with
     | true =>
      have HD:=Lib.hid hdig
      have HR : Hid (rdText (s.data.toList.drop p) = res):=Lib.hid (by rw [<- hres,hcons.out,rd_d _ _ _ hdig])
      clear hi hres hl hdig
      go_enter Tryz.func208,Tryz.ntmps208
      go_wp2_with fail
      refine (more_yes R s p d _ h hp).mono ?_
      rintro e w1 ⟨rfl,q1,rfl⟩
      go_wp2_with fail
      refine (is_z R s p d 105 _ rfl false _ (h.drewN q1) hs HB.out).mono ?_
      rintro e w2 ⟨rfl,q2,rfl⟩
      go_wp2_with fail
      refine (is_z R s p d 108 _ rfl false _ (h.drewN _) hs HB2.out).mono ?_
      rintro e w3 ⟨rfl,q3,rfl⟩
      go_wp2_with fail
      go_quiet ((go_at_call 227;exact isDigit_q _ true HD.out _ _ _))
      go_wp2_with fail
      refine (text_any R s p d _ (h.drewN _) hs hp).mono ?_
      rw [HR.out]
      intro e w4 hv
      obtain ⟨v,rfl,hv2⟩:=(hv.far (grown_drewN (World.grownBy.refl w _) _) (Nat.le_refl _)).ret
      clear hv
      go_wp2_with fail
      go_ret
      exact hv2
     | false =>
      have HD:=Lib.hid hdig
      have HR : Hid (res = .error 20):=Lib.hid (by rw [<- hres,hcons.out,rd,if_neg hi,if_neg (by rw [hdig];decide),if_neg hl])
      clear hi hres hl hdig
      go_enter Tryz.func208,Tryz.ntmps208
      go_wp2_with fail
      refine (more_yes R s p d _ h hp).mono ?_
      rintro e w1 ⟨rfl,q1,rfl⟩
      go_wp2_with fail
      refine (is_z R s p d 105 _ rfl false _ (h.drewN q1) hs HB.out).mono ?_
      rintro e w2 ⟨rfl,q2,rfl⟩
      go_wp2_with fail
      refine (is_z R s p d 108 _ rfl false _ (h.drewN _) hs HB2.out).mono ?_
      rintro e w3 ⟨rfl,q3,rfl⟩
      go_wp2_with fail
      go_quiet ((go_at_call 227;exact isDigit_q _ false HD.out _ _ _))
      go_wp2_with fail
      go_ret
      exact VPost.err HR.out rfl (grown_drewN (World.grownBy.refl _ _) _)
  ·have HR : Hid (rd (s.data.toList.drop p) d = .error 21):=Lib.hid (by rw [drop_nil s p hp,rd])
   go_enter Tryz.func208,Tryz.ntmps208
   go_wp2_with fail
   refine (more_no R s p d _ h hp).mono ?_
   rintro e w1 ⟨rfl,q1,rfl⟩
   go_wp2_with fail
   go_ret
   exact VPost.err HR.out rfl (grown_drewN (World.grownBy.refl _ _) _)
theorem value_any (R : Nat) (s : ByteArray) (hs : s.size <= 1000000000) (p d : Nat) (w : World) (h : IsRd w R s p d) (hd : d <= 8) : Calls Tryz.prog 208 #[.pointer (some ⟨R,0,none⟩)] w (VPost (rd (s.data.toList.drop p) d) R s p d w) :=
 value_of R s hs (s.size - p + 1) p d w h (by omega) hd
end
end Be
end Go.Proofs.YtegjjhjgfkcbhaaGreatDoor
