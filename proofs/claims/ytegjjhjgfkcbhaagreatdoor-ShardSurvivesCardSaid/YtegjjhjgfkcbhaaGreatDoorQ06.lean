/- BTake BOnly BRefA BRefB BWrB BWrC. Conditions: as each part says. -/
import Derived.Test.YtegjjhjgfkcbhaaGreatDoorQ05
import Derived.Deep.RegionHeld3
import Derived.Test.YtegjjhjgfkcbhaaGreatDoorQ03
set_option linter.unusedVariables false
set_option linter.unusedSimpArgs false
set_option maxRecDepth 100000
set_option maxHeartbeats 16000000
namespace Go.Proofs.YtegjjhjgfkcbhaaGreatDoor
namespace Be
section
open Go Go.RowKit
mutual
theorem limT_of : ∀ t : T,kindsOk t = true -> tidy t = t -> (enc t).length <= 1000000000 -> limT t = true
 | .mk k n s l,hk,ht,hl=>by
  rcases kinds_cases hk with rfl | rfl | ⟨rfl,hkl⟩
  ·rw [tidy_int] at ht
   injection ht with _ _ hs hl'
   subst hs hl'
   rfl
  ·rw [tidy_text] at ht
   injection ht with _ _ hs hl'
   subst hl'
   rw [enc_text] at hl
   simp at hl
   simp [limT,limL]
   omega
  ·rw [tidy_list] at ht
   injection ht with _ _ hs hl'
   subst hs
   rw [enc_list] at hl
   simp [limT,limL_of l hkl hl' (by simp at hl;omega)]
theorem limL_of : ∀ l : List T,kindsOkL l = true -> tidyL l = l -> (encL l).length <= 1000000000 -> limL l = true
 | [],_,_,_=>rfl
 | t :: ts,hk,ht,hl=>by
  simp only [kindsOkL,Bool.and_eq_true] at hk
  simp only [tidyL,List.cons.injEq] at ht
  rw [encL,List.length_append] at hl
  simp [limL,limT_of t hk.1 ht.1 (by omega),limL_of ts hk.2 ht.2 (by omega)]
end
def zeroA : Value:=.agg #[.int .i64 0,.int .i64 0,.string ⟨#[]⟩,.slice none 0 0]
theorem below_grown_new {w w1 w' : World} {R : Nat} (h : Below w.heap.size w w1) (hg : w1.grownBy w' (some R)) (hR : w.heap.size <= R) : Below w.heap.size w w':=h.grown hg h.size (fun k hk=>by injection hk;omega)
theorem take_start (s : ByteArray) (w : World) : ((w.alloc (.cells #[.int .i64 0,.int .i64 0,.string ⟨#[]⟩,.slice none 0 0] 202)).alloc (.cells #[.string s,.int .i64 0,.int .i64 0] 282)).heap[w.heap.size]? = some (.cells #[.int .i64 0,.int .i64 0,.string ⟨#[]⟩,.slice none 0 0] 202 (0,0)) /\
  IsRd ((w.alloc (.cells #[.int .i64 0,.int .i64 0,.string ⟨#[]⟩,.slice none 0 0] 202)).alloc (.cells #[.string s,.int .i64 0,.int .i64 0] 282)) (w.heap.size + 1) s 0 0 /\
  Below w.heap.size w ((w.alloc (.cells #[.int .i64 0,.int .i64 0,.string ⟨#[]⟩,.slice none 0 0] 202)).alloc (.cells #[.string s,.int .i64 0,.int .i64 0] 282)) /\
  ((w.alloc (.cells #[.int .i64 0,.int .i64 0,.string ⟨#[]⟩,.slice none 0 0] 202)).alloc (.cells #[.string s,.int .i64 0,.int .i64 0] 282)).heap.size = w.heap.size + 2:=by
 refine ⟨?_,?_,((Below.refl _ _).alloc (Nat.le_refl _) _).alloc (by simp) _,by simp⟩
 ·rw [Below.heap_alloc _ _ _ (by simp)]
  exact heap_alloc_new w _
 ·have:=heap_alloc_new (w.alloc (.cells #[.int .i64 0,.int .i64 0,.string ⟨#[]⟩,.slice none 0 0] 202)) (.cells #[.string s,.int .i64 0,.int .i64 0] 282)
  simpa [IsRd] using this
theorem take_err (s : ByteArray) (hs : s.size <= 1000000000) (w : World) (x : Int) (hx : rd s.data.toList 0 = .error x) : Calls Tryz.prog 180 #[.string s] w fun e w'=>e = .returned (.tuple #[zeroA,.int .i64 0,.int .i64 x]) /\ Below w.heap.size w w':=by
 have HX:=Lib.hid hx
 clear hx
 obtain ⟨hblk,hI,hb0,hsz⟩:=take_start s w
 go_enter Tryz.func180,Tryz.ntmps180
 go_wp2_with fail
 generalize (w.alloc (.cells #[.int .i64 0,.int .i64 0,.string ⟨#[]⟩,.slice none 0 0] 202)).alloc (.cells #[.string s,.int .i64 0,.int .i64 0] 282) = w1 at hblk hI hb0 hsz
 have HB:=Lib.hid hblk
 have HS:=Lib.hid hsz
 clear hblk hsz
 refine (value_any (w.heap.size + 1) s hs 0 0 _ hI (by omega)).mono ?_
 rw [List.drop_zero,HX.out]
 rintro e w3 ⟨rfl,hg4⟩
 have as0:=as_27_27 (.int .i64 x) w3
 have hblk3:=(hg4.block w.heap.size (by have:=HS.out;omega) (by simp)).trans HB.out
 obtain ⟨e0,e1,e2,e3,ef⟩:=val_block hblk3
 have hb3:=below_grown_new hb0 hg4 (by omega)
 have hz3 : w.heap.size < w3.heap.size:=by have:=hg4.size;have:=HS.out;omega
 clear hblk3
 go_wp2_with fail
 refine bodyPost_ret (v:=.tuple #[zeroA,.int .i64 0,.int .i64 x]) (by simp [results,Tryz.results180,go_sem,e0,e1,e2,e3,hz3,zeroA]) rfl ⟨rfl,?_⟩
 exact (((hb3.setCell (Nat.le_refl _) _).setCell (Nat.le_refl _) _).setCell (Nat.le_refl _) _).setCell (Nat.le_refl _) _
theorem take_long (s : ByteArray) (hs : s.size <= 1000000000) (w : World) (t : T) (n : Nat) (hx : rd s.data.toList 0 = .ok (t,n)) (hn : 65536 < n) : Calls Tryz.prog 180 #[.string s] w fun e w'=>e = .returned (.tuple #[zeroA,.int .i64 0,.int .i64 23]) /\ Below w.heap.size w w':=by
 have hle:=(rd_inv (by omega) hx).le
 simp at hle
 have HX:=Lib.hid hx
 clear hx
 obtain ⟨hblk,hI,hb0,hsz⟩:=take_start s w
 go_enter Tryz.func180,Tryz.ntmps180
 go_wp2_with fail
 generalize (w.alloc (.cells #[.int .i64 0,.int .i64 0,.string ⟨#[]⟩,.slice none 0 0] 202)).alloc (.cells #[.string s,.int .i64 0,.int .i64 0] 282) = w1 at hblk hI hb0 hsz
 have HB:=Lib.hid hblk
 have HS:=Lib.hid hsz
 clear hblk hsz
 refine (value_any (w.heap.size + 1) s hs 0 0 _ hI (by omega)).mono ?_
 rw [List.drop_zero,HX.out]
 rintro e w3 ⟨v,rfl,hI3,hg4,hne,hv⟩
 obtain ⟨ky,y',rfl,has⟩:=hne.form
 have as0:=has w3
 have hblk3:=(hg4.block w.heap.size (by have:=HS.out;omega) (by simp)).trans HB.out
 obtain ⟨e0,e1,e2,e3,ef⟩:=val_block hblk3
 have hb3:=below_grown_new hb0 hg4 (by omega)
 have hz3 : w.heap.size < w3.heap.size:=by have:=hg4.size;have:=HS.out;omega
 rw [Nat.zero_add] at hI3 hv
 have c1:=hI3.c1
 have hnz : (65536 : Int) < (n : Int):=by omega
 clear hblk3 has hne
 go_wp2_with fail
 refine bodyPost_ret (v:=.tuple #[zeroA,.int .i64 0,.int .i64 23]) (by simp [results,Tryz.results180,go_sem,e0,e1,e2,e3,hz3,zeroA]) rfl ⟨rfl,?_⟩
 exact (((hb3.setCell (Nat.le_refl _) _).setCell (Nat.le_refl _) _).setCell (Nat.le_refl _) _).setCell (Nat.le_refl _) _
def VTPost (t : T) (w : World) (e : Ending) (w' : World) : Prop:=∃ A c,e = .returned (.agg #[.int .i64 t.k,.int .i64 t.n,.string t.s,.slice A t.l.length c]) /\ RdA (fun b=>w.heap.size <= b) w' t (.agg #[.int .i64 t.k,.int .i64 t.n,.string t.s,.slice A t.l.length c]) /\ Below w.heap.size w w'
theorem valueOf_tidy (t : T) (ht : tidy t = t) (v : Value) (ok : Nat -> Prop) (w : World) (hv : Hv ok w t v) (hl : limT t = true) : Calls Tryz.prog 209 #[v] w (VTPost t w) :=
 (valueOf_any t v ok w hv hl).mono fun e w' ⟨v',he,hr,hb⟩=>by
  rw [ht] at hr
  obtain ⟨A,c,rfl,_⟩:=hr.rd
  exact ⟨A,c,he,hr,hb⟩
theorem take_ok (s : ByteArray) (hs : s.size <= 1000000000) (w : World) (t : T) (n : Nat) (hx : rd s.data.toList 0 = .ok (t,n)) (hn : n <= 65536) : Calls Tryz.prog 180 #[.string s] w fun e w'=>∃ v,e = .returned (.tuple #[v,.int .i64 n,.int .i64 0]) /\ RdA (fun b=>w.heap.size <= b) w' t v /\ Below w.heap.size w w':=by
 have hinv:=rd_inv (by omega) hx
 have hle:=hinv.le
 simp at hle
 have hlim : limT t = true:=limT_of t hinv.kinds hinv.tidy (by rw [hinv.bytes];simp;omega)
 have HT:=Lib.hid hinv.tidy
 have HX:=Lib.hid hx
 clear hx hinv
 obtain ⟨hblk,hI,hb0,hsz⟩:=take_start s w
 go_enter Tryz.func180,Tryz.ntmps180
 go_wp2_with fail
 generalize (w.alloc (.cells #[.int .i64 0,.int .i64 0,.string ⟨#[]⟩,.slice none 0 0] 202)).alloc (.cells #[.string s,.int .i64 0,.int .i64 0] 282) = w1 at hblk hI hb0 hsz
 have HB:=Lib.hid hblk
 have HS:=Lib.hid hsz
 clear hblk hsz
 refine (value_any (w.heap.size + 1) s hs 0 0 _ hI (by omega)).mono ?_
 rw [List.drop_zero,HX.out]
 rintro e w3 ⟨v,rfl,hI3,hg4,hne,hv⟩
 obtain ⟨ky,y',rfl,has⟩:=hne.form
 have as0:=has w3
 have hblk3:=(hg4.block w.heap.size (by have:=HS.out;omega) (by simp)).trans HB.out
 have hb3:=below_grown_new hb0 hg4 (by omega)
 have hz3 : w.heap.size + 1 < w3.heap.size:=by have:=hg4.size;have:=HS.out;omega
 rw [Nat.zero_add] at hI3 hv
 have hv3:=hv (by omega)
 have c1:=hI3.c1
 have hnz : ¬ (65536 : Int) < (n : Int):=by omega
 have HB3:=Lib.hid hblk3
 clear hblk3 has hne hv
 go_wp2_with fail
 have hvd:=Hv.keep (w:=w3) (w':=w3.drew) ⟨Nat.le_refl _,fun _ _ _=>rfl⟩ _ _ hv3
 go_region_held3 (fun w'=>w'.cell? ⟨w.heap.size + 1,1,none⟩ = some (.int .i64 (n : Int)))
  (first | go_keep | (rw [hb4.cell (by simp;omega)];assumption))
  ((go_at_call 209;refine (valueOf_tidy t HT.out _ _ _ hvd hlim).mono ?_;rintro e w4 ⟨A',c',rfl,hRA,hb4⟩;obtain ⟨e0,e1,e2,e3,ef⟩:=val_block ((hb4.block w.heap.size (by simp;omega)).trans HB3.out);have hz4 : w.heap.size + 1 < w4.heap.size:=(by have:=hb4.size;simp at this;omega)))
 go_wp2_with fail
 have hb4' : Below w3.heap.size w3 w4:=(Below.refl w3.heap.size w3).drew.trans hb4
 have hb04 : Below w.heap.size w w4:=hb3.trans (hb4'.mono (by omega))
 refine bodyPost_ret (v:=.tuple #[.agg #[.int .i64 t.k,.int .i64 t.n,.string t.s,.slice A' t.l.length c'],.int .i64 n,.int .i64 0]) (by simp [results,Tryz.results180,go_sem,e0,e1,e2,e3,hz4,show w.heap.size < w4.heap.size by omega]) rfl ⟨_,rfl,?_,?_⟩
 ·have h1:=hRA.mono (ok':=fun b=>w.heap.size + 1 <= b) (fun b hb _=>by simp at hb;omega)
  refine (h1.keep ((((Keeps.setCell (Keeps.refl _ _) ⟨w.heap.size,0,none⟩ ?_ _).setCell ⟨w.heap.size,1,none⟩ ?_ _).setCell ⟨w.heap.size,2,none⟩ ?_ _).setCell ⟨w.heap.size,3,none⟩ ?_ _)).mono (fun b hb _=>by omega)
  all_goals simp
 ·exact (((hb04.setCell (Nat.le_refl _) _).setCell (Nat.le_refl _) _).setCell (Nat.le_refl _) _).setCell (Nat.le_refl _) _
end
end Be
namespace Be
section
open Go Go.RowKit
theorem rdNum_errs {r : List UInt8} {x : Int} (h : rdNum r = .error x) : x = 20 \/ x = 21:=by
 by_cases hm : r.head? = some 45
 ·obtain ⟨r',rfl⟩ : ∃ r',r = 45 :: r':=by
   rcases r with _ | ⟨c,r'⟩
   ·simp at hm
   ·exact ⟨r',by simp at hm;rw [hm]⟩
  rw [rdNum_minus] at h
  split at h
  ·cases h;exact .inl rfl
  ·rcases hx : dg 9223372036854775808 101 20 true 0 r' with e | ⟨m,k⟩
   ·rw [hx] at h
    cases h
    rcases dg_errs _ _ _ _ _ _ _ hx with h1 | h1 | h1 <;> simp [h1]
   ·rw [hx] at h;cases h
 ·rw [rdNum_plus r hm] at h
  rcases hx : dg 9223372036854775807 101 20 true 0 r with e | ⟨m,k⟩
  ·rw [hx] at h
   cases h
   rcases dg_errs _ _ _ _ _ _ _ hx with h1 | h1 | h1 <;> simp [h1]
  ·rw [hx] at h;cases h
theorem rdText_errs {bs : List UInt8} {x : Int} (h : rdText bs = .error x) : x = 20 \/ x = 21 \/ x = 23:=by
 unfold rdText at h
 rcases hx : dg 65536 58 23 true 0 bs with e | ⟨m,k⟩
 ·rw [hx] at h
  cases h
  rcases dg_errs _ _ _ _ _ _ _ hx with h1 | h1 | h1 <;> simp [h1]
 ·rw [hx] at h
  simp only at h
  split at h
  ·cases h;simp
  ·cases h
theorem rd_errs_all (N : Nat) : (∀ (bs : List UInt8) (w : Nat) (x : Int),bs.length <= N -> rd bs w = .error x -> x = 20 \/ x = 21 \/ x = 22 \/ x = 23) /\ (∀ (bs : List UInt8) (w : Nat) (x : Int),bs.length <= N -> rdL bs w = .error x -> x = 20 \/ x = 21 \/ x = 22 \/ x = 23):=by
 induction N with
 | zero =>
  refine ⟨fun bs w x hl h=>?_,fun bs w x hl h=>?_⟩
  all_goals
   obtain rfl : bs = []:=List.eq_nil_of_length_eq_zero (by omega)
  ·rw [rd] at h;cases h;simp
  ·rw [rdL] at h;cases h;simp
 | succ N ih =>
  have hV : ∀ (bs : List UInt8) (w : Nat) (x : Int),bs.length <= N + 1 -> rd bs w = .error x -> x = 20 \/ x = 21 \/ x = 22 \/ x = 23:=by
   intro bs w x hl h
   rcases bs with _ | ⟨c,r⟩
   ·rw [rd] at h;cases h;simp
   ·rw [rd] at h
    split at h
    ·have:=rdNum_errs h;omega
    ·split at h
     ·have:=rdText_errs h;omega
     ·split at h
      ·split at h
       ·cases h;simp
       ·rcases hx : rdL r (w + 1) with e | ⟨ts,k⟩
        ·rw [hx] at h
         cases h
         exact ih.2 _ _ _ (by simp at hl;omega) hx
        ·rw [hx] at h;cases h
      ·cases h;simp
  refine ⟨hV,fun bs w x hl h=>?_⟩
  rcases bs with _ | ⟨c,r⟩
  ·rw [rdL] at h;cases h;simp
  ·rw [rdL] at h
   split at h
   ·cases h
   ·rcases hx : rd (c :: r) w with e | ⟨t,k⟩
    ·rw [hx] at h
     cases h
     exact hV _ _ _ hl hx
    ·rw [hx] at h
     simp only at h
     rcases hy : rdL (r.drop (k - 1)) w with e | ⟨us,m⟩
     ·rw [hy] at h
      cases h
      exact ih.2 _ _ _ (by simp at hl ⊢;omega) hy
     ·rw [hy] at h;cases h
def takeRes (bs : List UInt8) : Except Int (T × Nat) :=
 match rd bs 0 with
 | .error x=>.error x
 | .ok (t,n)=>if 65536 < n then .error 23 else .ok (t,n)
def onlyRes (bs : List UInt8) : Except Int T :=
 match takeRes bs with
 | .error x=>.error x
 | .ok (t,n)=>if n < bs.length then .error 20 else .ok t
theorem takeRes_errs {bs : List UInt8} {x : Int} (h : takeRes bs = .error x) : x = 20 \/ x = 21 \/ x = 22 \/ x = 23:=by
 unfold takeRes at h
 rcases hx : rd bs 0 with e | ⟨t,n⟩
 ·rw [hx] at h
  cases h
  exact (rd_errs_all bs.length).1 _ _ _ (Nat.le_refl _) hx
 ·rw [hx] at h
  simp only at h
  split at h
  ·cases h;simp
  ·cases h
theorem takeRes_ok {bs : List UInt8} {t : T} {n : Nat} (h : takeRes bs = .ok (t,n)) : rd bs 0 = .ok (t,n) /\ n <= 65536:=by
 unfold takeRes at h
 rcases hx : rd bs 0 with e | ⟨t',n'⟩
 ·rw [hx] at h;cases h
 ·rw [hx] at h
  simp only at h
  split at h
  ·cases h
  ·cases h
   exact ⟨rfl,by omega⟩
def TkPost (r : Except Int (T × Nat)) (w : World) (e : Ending) (w' : World) : Prop :=
 match r with
 | .error x=>e = .returned (.tuple #[zeroA,.int .i64 0,.int .i64 x]) /\ Below w.heap.size w w'
 | .ok (t,n)=>∃ v,e = .returned (.tuple #[v,.int .i64 n,.int .i64 0]) /\ RdA (fun b=>w.heap.size <= b) w' t v /\ Below w.heap.size w w'
def OnPost (r : Except Int T) (w : World) (e : Ending) (w' : World) : Prop :=
 match r with
 | .error x=>e = .returned (.tuple #[zeroA,.int .i64 x]) /\ Below w.heap.size w w'
 | .ok t=>∃ v,e = .returned (.tuple #[v,.int .i64 0]) /\ RdA (fun b=>w.heap.size <= b) w' t v /\ Below w.heap.size w w'
theorem take_any (s : ByteArray) (hs : s.size <= 1000000000) (w : World) : Calls Tryz.prog 180 #[.string s] w (TkPost (takeRes s.data.toList) w):=by
 unfold takeRes
 rcases hx : rd s.data.toList 0 with x | ⟨t,n⟩
 ·exact take_err s hs w x hx
 ·by_cases hn : 65536 < n
  ·have:=take_long s hs w t n hx hn
   simp only [if_pos hn]
   exact this
  ·have:=take_ok s hs w t n hx (by omega)
   simp only [if_neg hn]
   exact this
theorem OnPost.of_err {r : Except Int T} {x : Int} {w w' : World} {e : Ending} (h : r = .error x) (he : e = .returned (.tuple #[zeroA,.int .i64 x])) (hb : Below w.heap.size w w') : OnPost r w e w':=by
 subst h
 exact ⟨he,hb⟩
theorem OnPost.of_ok {r : Except Int T} {t : T} {v : Value} {w w' : World} {e : Ending} (h : r = .ok t) (he : e = .returned (.tuple #[v,.int .i64 0])) (hr : RdA (fun b=>w.heap.size <= b) w' t v) (hb : Below w.heap.size w w') : OnPost r w e w':=by
 subst h
 exact ⟨v,he,hr,hb⟩
theorem below_four {w w1 : World} {b : Nat} (h : Below w.heap.size w w1) (hb : w.heap.size <= b) (v0 v1 v2 v3 : Value) : Below w.heap.size w ((((w1.setCell ⟨b,0,none⟩ v0).setCell ⟨b,1,none⟩ v1).setCell ⟨b,2,none⟩ v2).setCell ⟨b,3,none⟩ v3) :=
 (((h.setCell hb v0).setCell hb v1).setCell hb v2).setCell hb v3
theorem Keeps.alloc {ok : Nat -> Prop} {a w : World} (h : Keeps ok a w) (o : Obj) : Keeps ok a (w.alloc o) :=
 ⟨by have:=h.1;simp;omega,fun b hb hl=>by
  rw [Below.heap_alloc w o b (Nat.lt_of_lt_of_le hl h.1)]
  exact h.2 b hb hl⟩
theorem keeps_four {ok : Nat -> Prop} {a w1 : World} {b : Nat} (h : Keeps ok a w1) (hb : ¬ ok b) (v0 v1 v2 v3 : Value) : Keeps ok a ((((w1.setCell ⟨b,0,none⟩ v0).setCell ⟨b,1,none⟩ v1).setCell ⟨b,2,none⟩ v2).setCell ⟨b,3,none⟩ v3) :=
 (((h.setCell ⟨b,0,none⟩ hb v0).setCell ⟨b,1,none⟩ hb v1).setCell ⟨b,2,none⟩ hb v2).setCell ⟨b,3,none⟩ hb v3
theorem only_any (s : ByteArray) (hs : s.size <= 1000000000) (w : World) : Calls Tryz.prog 145 #[.string s] w (OnPost (onlyRes s.data.toList) w):=by
 have htk:=take_any s hs (w.alloc (.cells #[.int .i64 0,.int .i64 0,.string ⟨#[]⟩,.slice none 0 0] 202))
 generalize hres : onlyRes s.data.toList = res
 unfold onlyRes at hres
 rcases hx : takeRes s.data.toList with x | ⟨t,n⟩
 ·rw [hx] at htk hres
  have HTK:=Lib.hid htk
  have HR : Hid (res = .error x):=Lib.hid hres.symm
  have hxs:=takeRes_errs hx
  clear hx htk hres
  have hx0 : (x == 0) = false:=by
   rw [Bool.eq_false_iff,Ne,beq_iff_eq]
   omega
  have hxn : (x != 0) = true:=by rw [bne,hx0];rfl
  clear hxs
  go_enter Tryz.func145,Tryz.ntmps145
  go_wp2_with fail
  refine HTK.out.mono ?_
  rintro e w1 ⟨rfl,hb⟩
  obtain ⟨hc,hf⟩:=bcell hb
  have hz : w.heap.size < w1.heap.size:=by have:=hb.size;simp at this;omega
  unfold zeroA
  go_wp2_with fail
  refine bodyPost_ret (v:=.tuple #[zeroA,.int .i64 x]) (by simp [results,Tryz.results145,go_sem,hc,hz,zeroA]) rfl (OnPost.of_err HR.out rfl ?_)
  exact (below_four (below_new hb) (Nat.le_refl _) _ _ _ _).alloc (by simp;omega) _
 ·rw [hx] at htk hres
  have hle:=(rd_inv (by omega) (takeRes_ok hx).1).le
  simp at hle hres
  have HTK:=Lib.hid htk
  clear hx htk
  by_cases hn : n < s.size
  ·rw [if_pos hn] at hres
   have HR : Hid (res = .error 20):=Lib.hid hres.symm
   clear hres
   have hnz : (n : Int) < (s.size : Int):=by omega
   go_enter Tryz.func145,Tryz.ntmps145
   go_wp2_with fail
   refine HTK.out.mono ?_
   rintro e w1 ⟨v,rfl,hRA,hb⟩
   obtain ⟨A,c,rfl,_⟩:=hRA.rd
   obtain ⟨hc,hf⟩:=bcell hb
   have hz : w.heap.size < w1.heap.size:=by have:=hb.size;simp at this;omega
   go_wp2_with fail
   refine bodyPost_ret (v:=.tuple #[zeroA,.int .i64 20]) (by simp [results,Tryz.results145,go_sem,hc,hz,zeroA]) rfl (OnPost.of_err HR.out rfl ?_)
   exact (below_four (below_new hb) (Nat.le_refl _) _ _ _ _).alloc (by simp;omega) _
  ·rw [if_neg hn] at hres
   have HR : Hid (res = .ok t):=Lib.hid hres.symm
   clear hres
   have hnz : ¬ (n : Int) < (s.size : Int):=by omega
   go_enter Tryz.func145,Tryz.ntmps145
   go_wp2_with fail
   refine HTK.out.mono ?_
   rintro e w1 ⟨v,rfl,hRA,hb⟩
   obtain ⟨A,c,rfl,_⟩:=hRA.rd
   obtain ⟨hc,hf⟩:=bcell hb
   have hz : w.heap.size < w1.heap.size:=by have:=hb.size;simp at this;omega
   go_wp2_with fail
   refine bodyPost_ret (v:=.tuple #[.agg #[.int .i64 t.k,.int .i64 t.n,.string t.s,.slice A t.l.length c],.int .i64 0]) (by simp [results,Tryz.results145,go_sem,hc,hz]) rfl (OnPost.of_ok HR.out rfl ?_ ?_)
   ·have h1:=hRA.mono (ok':=fun b=>w.heap.size + 1 <= b /\ b < w1.heap.size) (fun b hb hl=>by simp at hb;omega)
    refine (h1.keep ?_).mono (fun b hb _=>by omega)
    exact (keeps_four (Keeps.refl _ _) (by simp;omega) _ _ _ _).alloc _
   ·exact (below_four (below_new hb) (Nat.le_refl _) _ _ _ _).alloc (by simp;omega) _
end
end Be
namespace Be
section
open Go Go.RowKit
theorem elem_at {ok : Nat -> Prop} {w : World} {A : Option Addr} {l : List T} {xs : List Value} {k : Nat} (hr : ReadsP ok w 4 A l.length xs) (hl : RdL ok w l xs) (hk : k < l.length) :
  ∃ b o A' c',A = some ⟨b,o,none⟩ /\ ok b /\ b < w.heap.size /\ w.frozen? ⟨b,o,none⟩ = false /\ RdA ok w l[k] (.agg #[.int .i64 l[k].k,.int .i64 l[k].n,.string l[k].s,.slice A' l[k].l.length c']) /\
   w.cell? ⟨b,o + k * 4,none⟩ = some (.int .i64 l[k].k) /\ w.cell? ⟨b,o + k * 4 + 1,none⟩ = some (.int .i64 l[k].n) /\ w.cell? ⟨b,o + k * 4 + 2,none⟩ = some (.string l[k].s) /\ w.cell? ⟨b,o + k * 4 + 3,none⟩ = some (.slice A' l[k].l.length c'):=by
 obtain ⟨ad,rfl,hb,hlt,hf,hc⟩:=hr.at_ (by omega)
 obtain ⟨cs,hcs,hx⟩:=hl.get hk
 generalize l[k] = u at hcs
 obtain ⟨ku,nu,su,lu⟩:=u
 rw [Rd] at hcs
 obtain ⟨A',c',ys,rfl,h2,h3,h4,h5,h6⟩:=hcs
 have hsp : ad = ⟨ad.block,ad.off,none⟩:=by
  obtain ⟨u0,hu0⟩ : ∃ u0,xs[0]? = some u0:=by
   have:=hr.len
   exact ⟨xs[0]'(by omega),List.getElem?_eq_getElem (by omega)⟩
  have h0:=hc 0 u0 hu0
  obtain ⟨ab,ao,asp⟩:=ad
  cases asp with
  | none=>rfl
  | some z=>simp [World.cell?,Addr.add] at h0;split at h0 <;> cases h0
 obtain ⟨ab,ao,asp⟩:=ad
 injection hsp with _ _ hs
 subst hs
 have hcell : ∀ j,j < 4 -> ∀ u,([.int .i64 ku,.int .i64 nu,.string su,.slice A' lu.length c'] : List Value)[j]? = some u -> w.cell? ⟨ab,ao + (k * 4 + j),none⟩ = some u:=by
  intro j hj u hu
  have:=hc (k * 4 + j) u (by rw [hx j hj];exact hu)
  rwa [add_flat] at this
 refine ⟨ab,ao,A',c',rfl,hb,hlt,hf,⟨A',c',ys,rfl,h2,h3,h4,h5,h6⟩,?_,?_,?_,?_⟩
 ·exact hcell 0 (by omega) _ rfl
 ·rw [Nat.add_assoc];exact hcell 1 (by omega) _ rfl
 ·rw [Nat.add_assoc];exact hcell 2 (by omega) _ rfl
 ·rw [Nat.add_assoc];exact hcell 3 (by omega) _ rfl
end
end Be
namespace Be
section
open Go Go.RowKit
end
end Be
namespace Be
section
open Go Go.RowKit
theorem encL_append : ∀ l m : List T,encL (l ++ m) = encL l ++ encL m
 | [],m=>rfl
 | t :: ts,m=>by simp [encL,encL_append ts m]
theorem encL_take (l : List T) (k : Nat) (hk : k < l.length) : encL (l.take (k + 1)) = encL (l.take k) ++ enc l[k]:=by
 rw [List.take_succ_eq_append_getElem hk,encL_append]
 simp [encL]
theorem kindsOkL_iff : ∀ l : List T,kindsOkL l = true ↔ ∀ t ∈ l,kindsOk t = true
 | []=>by simp [kindsOkL]
 | t :: ts=>by simp [kindsOkL,kindsOkL_iff ts]
theorem deepL_le : ∀ (l : List T) (n : Nat),deepL l <= n ↔ ∀ t ∈ l,deepT t <= n
 | [],n=>by simp [deepL]
 | t :: ts,n=>by simp [deepL,<- deepL_le ts n];omega
theorem wfL_iff : ∀ l : List T,wfL l = true ↔ ∀ t ∈ l,wfT t = true
 | []=>by simp [wfL]
 | t :: ts=>by simp [wfL,wfL_iff ts]
def gdT (t : T) (d : Nat) (bs : List UInt8) : Bool:=kindsOk t && decide (deepT t + d <= 8) && decide ((bs ++ enc t).length <= 65536)
theorem gdT_iff {t : T} {d : Nat} {bs : List UInt8} : gdT t d bs = true ↔ kindsOk t = true /\ deepT t + d <= 8 /\ (bs ++ enc t).length <= 65536:=by simp [gdT,and_assoc]
theorem gd_inner {n : Int} {s : ByteArray} {l : List T} {d : Nat} {bs : List UInt8} {k : Nat} (hk : k < l.length) (h : gdT (.mk 3 n s l) d bs = true) : gdT l[k] (d + 1) (bs ++ 108 :: encL (l.take k)) = true:=by
 rw [gdT_iff] at h ⊢
 obtain ⟨h1,h2,h3⟩:=h
 rcases kinds_cases h1 with e | e | ⟨_,hkl⟩
 ·cases e
 ·cases e
 ·have hm : l[k] ∈ l:=List.getElem_mem hk
  have hd : deepL l + 1 + d <= 8:=by simpa [deepT] using h2
  have hdk:=(deepL_le l _).1 (Nat.le_refl _) _ hm
  refine ⟨(kindsOkL_iff l).1 hkl _ hm,by omega,?_⟩
  rw [enc_list] at h3
  have e : l = l.take k ++ (l[k] :: l.drop (k + 1)):=by rw [<- List.drop_eq_getElem_cons hk,List.take_append_drop]
  have el : (encL l).length = (encL (l.take k)).length + (enc l[k]).length + (encL (l.drop (k + 1))).length:=by
   conv=>lhs;rw [e,encL_append,encL]
   simp
   omega
  simp at h3 ⊢
  omega
theorem gd_all {n : Int} {s : ByteArray} {l : List T} {d : Nat} {bs : List UInt8} (hd : d < 8) (h1 : ∀ t ∈ l,kindsOk t = true) (h2 : ∀ t ∈ l,deepT t + (d + 1) <= 8) : gdT (.mk 3 n s l) d bs = decide ((bs ++ 108 :: (encL l ++ [101])).length <= 65536):=by
 have k1 : kindsOk (.mk 3 n s l) = true:=by simp [kindsOk,(kindsOkL_iff l).2 h1]
 have k2 : deepT (.mk 3 n s l) + d <= 8:=by
  have:=(deepL_le l (7 - d)).2 (fun t ht=>by have:=h2 t ht;omega)
  simp [deepT]
  omega
 simp only [gdT,k1,decide_eq_true k2,Bool.true_and,enc_list]
structure WRel (l : List T) (d : Nat) (bs : List UInt8) (Wb B : Nat) (w wr : World) (k : Nat) : Prop where
 at_ : ∃ u,WrAt wr Wb B u (bs ++ 108 :: encL (l.take k))
 bel : Below Wb w wr
 kinds : ∀ t ∈ l.take k,kindsOk t = true
 deep : ∀ t ∈ l.take k,deepT t + (d + 1) <= 8
 len : (bs ++ 108 :: encL (l.take k)).length <= 65538 + d
theorem wrel_step {l : List T} {d : Nat} {bs : List UInt8} {Wb B : Nat} {w wr w3 : World} {k : Nat} {x : T} (hR : WRel l d bs Wb B w wr k) (hg : gdT x (d + 1) (bs ++ 108 :: encL (l.take k)) = true) (he : encL (l.take (k + 1)) = encL (l.take k) ++ enc x) (ht : l.take (k + 1) = l.take k ++ [x])
  (hw3 : ∃ u,WrAt w3 Wb B u (bs ++ 108 :: encL (l.take k) ++ enc x)) (hb3 : Below Wb wr w3) : WRel l d bs Wb B w w3 (k + 1):=by
 obtain ⟨g1,g2,g3⟩:=gdT_iff.1 hg
 have e : bs ++ 108 :: encL (l.take (k + 1)) = bs ++ 108 :: encL (l.take k) ++ enc x:=by rw [he];simp
 refine ⟨by rw [e];exact hw3,hR.bel.trans hb3,?_,?_,by rw [e];omega⟩
 ·rw [ht]
  intro t hm
  rcases List.mem_append.1 hm with hm | hm
  ·exact hR.kinds t hm
  ·simp at hm;subst hm;exact g1
 ·rw [ht]
  intro t hm
  rcases List.mem_append.1 hm with hm | hm
  ·exact hR.deep t hm
  ·simp at hm;subst hm;exact g2
theorem wlist_of (N : Nat) (Wb B : Nat) (ih : ∀ (t : T) (v : Value) (w : World) (u : Value) (bs : List UInt8) (d : Nat) (D : Int),SizeOf.sizeOf t < N -> RdA (fun b=>b < Wb) w t v -> wfT t = true -> WrAt w Wb B u bs -> Tabs w Wb -> bs.length <= 65537 + d -> D = (d : Int) -> d <= 8 ->
   Calls Tryz.prog 169 #[.pointer (some ⟨Wb,0,none⟩),v,.int .i64 D] w (WVPost Wb B (gdT t d bs) (bs ++ enc t) w))
  (n : Int) (s : ByteArray) (l : List T) (A : Option Addr) (c : Nat) (xs : List Value) (w : World) (u : Value) (bs : List UInt8) (d : Nat) (D : Int) (hN : ∀ t ∈ l,SizeOf.sizeOf t < N) (hr : ReadsP (fun b=>b < Wb) w 4 A l.length xs) (hl : RdL (fun b=>b < Wb) w l xs) (hcap : l.length <= 9223372036854775807) (hwf : wfL l = true)
  (h : WrAt w Wb B u bs) (hT : Tabs w Wb) (hlen : bs.length <= 65537 + d) (hD : D = (d : Int)) (hd : d <= 8) :
  Calls Tryz.prog 200 #[.pointer (some ⟨Wb,0,none⟩),.slice A l.length c,.int .i64 D] w (WVPost Wb B (gdT (.mk 3 n s l) d bs) (bs ++ enc (.mk 3 n s l)) w):=by
 obtain ⟨hc,hf,hz⟩:=h.cell
 have hBs:=h.le
 have hlt:=h.lt
 by_cases h8 : d = 8
 ·have hg : gdT (.mk 3 n s l) d bs = false:=by
   rw [Bool.eq_false_iff,Ne,gdT_iff]
   rintro ⟨_,h2,_⟩
   simp [deepT] at h2
   omega
  have hD8 : (D == 8) = true:=by rw [beq_iff_eq];omega
  rw [hg]
  clear hD
  go_enter Tryz.func200,Tryz.ntmps200
  go_wp2_with fail
  go_ret
  exact ⟨rfl,fun h=>by simp at h,Below.refl _ _⟩
 ·have hd8 : d < 8:=by omega
  have hD8 : (D == 8) = false:=by rw [Bool.eq_false_iff,Ne,beq_iff_eq];omega
  generalize hgd : gdT (.mk 3 n s l) d bs = gd
  have HGD:=Lib.hid hgd
  have HD:=Lib.hid hD
  have hDb : 0 <= D /\ D < 8:=by omega
  clear hgd hD h8
  obtain ⟨hDb0,hDb1⟩:=hDb
  generalize hll : l.length = len at *
  have HLL:=Lib.hid hll
  clear hll
  go_enter Tryz.func200,Tryz.ntmps200
  go_wp2_with (at_builtin;refine append_byte rfl (.tmp 14) (.tmp 15) rfl B u bs.length _ _ rfl rfl h.own rfl (by omega) hBs ?_;intro v1 w1 hown1 hgr1 hob1;obtain ⟨A1,c1,rfl,_⟩:=own_shape hown1;have hb1:=h.grown hgr1;obtain ⟨k0,k1,k2⟩:=blk_cell hb1)
  have hB1 : B <= w1.heap.size:=Nat.le_trans hBs hgr1.size
  have hw2:=wr_put hb1 (own_byte 108 rfl hown1) hlt hB1
  have hbel2 : Below Wb w (w1.setCell ⟨Wb,0,none⟩ (.slice A1 (bs.length + 1) c1)):=((Below.refl Wb w).grown hgr1 (by omega) (fun k hk=>by have:=(h.own.lt _ hk).1;omega)).setCell (Nat.le_refl _) _
  generalize w1.setCell ⟨Wb,0,none⟩ (.slice A1 (bs.length + 1) c1) = w2 at hw2 hbel2
  clear k0 k1 k2
  go_loopw [21] (fun i wr=>∃ k : Nat,i = .int .i64 (k : Int) /\ k <= len /\ WRel l d bs Wb B w wr k) (fun i _=>len - (intOf i).toNat)
  case atStart=>exact ⟨0,rfl,Nat.zero_le _,⟨_,hw2⟩,hbel2,by simp,by simp,by simp [encL];omega⟩
  case round =>
   obtain ⟨k,rfl,hk,hR⟩:=hrel
   obtain ⟨uk,hwk⟩:=hR.at_
   have hlk:=hR.len
   by_cases hlt2 : k < len
   ·have hltz : (k : Int) < (len : Int):=by omega
    have hkl : k < l.length:=by have:=HLL.out;omega
    obtain ⟨b,o,A',c',rfl,hok,hblt,hfr,hRA,g0,g1,g2,g3⟩:=elem_at (HLL.out ▸ hr) hl hkl
    have hRA2:=hRA.keep (Keeps.of_below hR.bel (fun b hb _=>hb))
    rw [<- hR.bel.cell (p:=⟨b,o + k * 4,none⟩) hok] at g0
    rw [<- hR.bel.cell (p:=⟨b,o + k * 4 + 1,none⟩) hok] at g1
    rw [<- hR.bel.cell (p:=⟨b,o + k * 4 + 2,none⟩) hok] at g2
    rw [<- hR.bel.cell (p:=⟨b,o + k * 4 + 3,none⟩) hok] at g3
    have hmem : l[k] ∈ l:=List.getElem_mem hkl
    have hszk:=hN _ hmem
    have hwfk:=(wfL_iff l).1 hwf _ hmem
    have hinn : gd = true -> gdT l[k] (d + 1) (bs ++ 108 :: encL (l.take k)) = true:=fun h=>gd_inner hkl (HGD.out.trans h)
    have HINN:=Lib.hid hinn
    have HENC:=Lib.hid (encL_take l k hkl)
    have HTK:=Lib.hid (List.take_succ_eq_append_getElem hkl)
    clear hinn hmem hRA hfr
    generalize l[k] = x at *
    cases hq : gdT x (d + 1) (bs ++ 108 :: encL (l.take k)) with
    | true =>
     have HQ:=Lib.hid hq
     clear hq
     go_wp2_with fail
     refine (ih x _ _ _ _ (d + 1) (D + 1) hszk hRA2 hwfk hwk (hT.on hR.bel) (by omega) (by have:=HD.out;omega) (by omega)).mono ?_
     rw [HQ.out]
     rintro e w3 ⟨rfl,hw3,hb3⟩
     have HW3:=Lib.hid (hw3 rfl)
     clear hw3
     go_wp2_with fail
     go_roundw
     case rel=>exact ⟨k + 1,by go_num,by omega,wrel_step hR HQ.out HENC.out HTK.out HW3.out hb3⟩
     case measure=>simp [intOf];omega
    | false =>
     have HQ:=Lib.hid hq
     clear hq
     have hgf : gd = false:=by
      cases hg : gd with
      | false=>rfl
      | true=>have:=HINN.out hg;rw [HQ.out] at this;cases this
     have HGF:=Lib.hid hgf
     clear hgf
     go_wp2_with fail
     refine (ih x _ _ _ _ (d + 1) (D + 1) hszk hRA2 hwfk hwk (hT.on hR.bel) (by omega) (by have:=HD.out;omega) (by omega)).mono ?_
     rw [HQ.out]
     rintro e w3 ⟨rfl,_,hb3⟩
     go_wp2_with fail
     go_ret
     refine ⟨ret_bool HGF.out.symm,fun h=>?_,hR.bel.trans hb3⟩
     rw [HGF.out] at h
     cases h
   ·have hltz : ¬ (k : Int) < (len : Int):=by omega
    have htk : l.take k = l:=List.take_of_length_le (by have:=HLL.out;omega)
    have hkk:=hR.kinds
    have hdk:=hR.deep
    have hbk:=hR.bel
    rw [htk] at hwk hlk hkk hdk
    have HF : Hid (gd = decide ((bs ++ enc (.mk 3 n s l)).length <= 65536)):=Lib.hid (by rw [<- HGD.out,gd_all hd8 hkk hdk,enc_list])
    have HE : Hid (bs ++ 108 :: encL l ++ [101] = bs ++ enc (.mk 3 n s l)):=Lib.hid (by rw [enc_list];simp)
    clear htk hkk hdk
    obtain ⟨k0,k1,k2⟩:=hwk.cell
    have hownk:=hwk.own
    have hgrk:=fun w5=>hwk.grown (w1:=w5)
    have hlek:=hwk.le
    generalize bs ++ 108 :: encL l = bs' at *
    go_wp2_with (first
     | (at_builtin;refine append_byte rfl (.tmp 38) (.tmp 39) rfl B uk bs'.length _ _ rfl rfl hownk rfl (by omega) hlek ?_;intro v5 w5 hown5 hgr5 hob5;obtain ⟨A5,c5,rfl,_⟩:=own_shape hown5;have hb5:=hgrk _ hgr5;obtain ⟨k3,k4,k5⟩:=blk_cell hb5)
     | (go_at_call 201;refine (fits_any Wb B _ (bs' ++ [101]) _ (wr_put hb5 (own_byte 101 rfl hown5) hlt (by have:=hgr5.size;omega))).mono ?_;rintro e w' ⟨rfl,rfl⟩))
    have hw6:=wr_put hb5 (own_byte 101 rfl hown5) hlt (by have:=hgr5.size;omega)
    have hbel6 : Below Wb w (w5.setCell ⟨Wb,0,none⟩ (.slice A5 (bs'.length + 1) c5)):=(hbk.grown hgr5 (by omega) (fun k hk=>by have:=(hownk.lt _ hk).1;omega)).setCell (Nat.le_refl _) _
    go_ret
    rw [HE.out] at hw6
    exact ⟨ret_bool (by rw [HF.out,<- HE.out,decide_eq_decide];simp),fun _=>⟨_,hw6⟩,hbel6⟩
end
end Be
namespace Be
section
open Go Go.RowKit
theorem WVPost.far {Wb B : Nat} {g : Bool} {bs : List UInt8} {w w1 w' : World} {e : Ending} (h : WVPost Wb B g bs w1 e w') (hb : Below Wb w w1) : WVPost Wb B g bs w e w':=⟨h.1,h.2.1,hb.trans h.2.2⟩
theorem wvalue_of (Wb B : Nat) (N : Nat) : ∀ (t : T) (v : Value) (w : World) (u : Value) (bs : List UInt8) (d : Nat) (D : Int),SizeOf.sizeOf t < N -> RdA (fun b=>b < Wb) w t v -> wfT t = true -> WrAt w Wb B u bs -> Tabs w Wb -> bs.length <= 65537 + d -> D = (d : Int) -> d <= 8 ->
   Calls Tryz.prog 169 #[.pointer (some ⟨Wb,0,none⟩),v,.int .i64 D] w (WVPost Wb B (gdT t d bs) (bs ++ enc t) w):=by
 induction N with
 | zero=>intro t v w u bs d D h;omega
 | succ N ih =>
  intro t v w u bs d D hN hRA hwf h hT hlen hD hd
  obtain ⟨A,c,xs,rfl,h2,h3,h4,h5,h6⟩:=hRA
  obtain ⟨k,n,s,l⟩:=t
  simp only [T.k,T.n,T.s,T.l] at *
  unfold maxLen at h2 h4
  simp only [wfT,Bool.and_eq_true,decide_eq_true_eq] at hwf
  obtain ⟨⟨⟨hn0,hn1⟩,hk0,hk1⟩,hwfl⟩:=hwf
  have hlt:=h.lt
  have hle:=h.le
  have hb0 : Below w.heap.size w (w.alloc (.cells #[.int .i64 k,.int .i64 n,.string s,.slice A l.length c] 202)):=(Below.refl _ _).alloc (Nat.le_refl _) _
  have hb0' : Below Wb w (w.alloc (.cells #[.int .i64 k,.int .i64 n,.string s,.slice A l.length c] 202)):=hb0.mono (by omega)
  have hw0:=h.below hb0
  have hT0:=hT.on hb0'
  generalize hgd : gdT (.mk k n s l) d bs = gd
  generalize hbf : bs ++ enc (.mk k n s l) = bf
  have HGD:=Lib.hid hgd
  have HBF:=Lib.hid hbf
  have HDD:=Lib.hid hD
  have HWL:=Lib.hid hwfl
  clear hgd hbf hD hwfl hk0 hk1 hb0
  by_cases hk1' : k = 1
  ·subst hk1'
   have HE : Hid (bs ++ 105 :: (Lib.itoa n ++ [101]) = bf):=Lib.hid (by rw [<- HBF.out,enc_num])
   have HG : Hid (gd = decide (bf.length <= 65536)):=Lib.hid (by
    rw [<- HGD.out,<- HBF.out]
    simp [gdT,kindsOk,deepT,decide_eq_true hd])
   go_enter Tryz.func169,Tryz.ntmps169
   go_wp2_with fail
   refine (wnumber_any Wb B u bs n hn0 hn1 (by omega) _ hw0 hT0).mono ?_
   rw [HE.out]
   rintro e w1 ⟨rfl,⟨u1,hw1⟩,hb1⟩
   go_wp2_with fail
   refine (fits_any Wb B u1 bf _ hw1).mono ?_
   rintro e w2 ⟨rfl,rfl⟩
   go_wp2_with fail
   go_ret
   exact ⟨ret_bool HG.out.symm,fun _=>⟨_,hw1⟩,hb0'.trans hb1⟩
  ·by_cases hk2 : k = 2
   ·subst hk2
    have HG : Hid (gd = decide ((bs ++ (Lib.itoa s.size ++ 58 :: s.data.toList)).length <= 65536)):=Lib.hid (by
     rw [<- HGD.out,<- enc_text n s l]
     simp [gdT,kindsOk,deepT,decide_eq_true hd])
    have HE : Hid (bs ++ (Lib.itoa s.size ++ 58 :: s.data.toList) = bf):=Lib.hid (by rw [<- HBF.out,enc_text])
    go_enter Tryz.func169,Tryz.ntmps169
    go_wp2_with fail
    refine (wtext_any Wb B u bs s (by omega) (by omega) _ hw0 hT0).mono ?_
    rw [<- HG.out,HE.out]
    rintro e w1 hp
    obtain ⟨rfl,hp2⟩:=hp.far hb0'
    have HP:=Lib.hid hp2
    clear hp hp2
    go_wp2_with fail
    go_ret
    exact ⟨rfl,HP.out⟩
   ·by_cases hk3 : k = 3
    ·subst hk3
     go_enter Tryz.func169,Tryz.ntmps169
     go_wp2_with fail
     refine (wlist_of N Wb B ih n s l A c xs _ u bs d D (fun t ht=>by have:=sz_mem (k:=3) (n:=n) (s:=s) ht;omega) (h5.keep (Keeps.of_below hb0' (fun b hb _=>hb))) (RdL.keep (Keeps.of_below hb0' (fun b hb _=>hb)) _ _ h6) (by omega) HWL.out hw0 hT0 hlen HDD.out hd).mono ?_
     rw [HGD.out,HBF.out]
     rintro e w1 hp
     obtain ⟨rfl,hp2⟩:=hp.far hb0'
     have HP:=Lib.hid hp2
     clear hp hp2
     go_wp2_with fail
     go_ret
     exact ⟨rfl,HP.out⟩
    ·have e1 : (k == 1) = false:=by simpa using hk1'
     have e2 : (k == 2) = false:=by simpa using hk2
     have e3 : (k == 3) = false:=by simpa using hk3
     have HG : Hid (gd = false):=Lib.hid (by rw [<- HGD.out];simp [gdT,kindsOk,hk1',hk2,hk3])
     clear hk1' hk2 hk3
     go_enter Tryz.func169,Tryz.ntmps169
     go_wp2_with fail
     go_ret
     refine ⟨ret_bool HG.out.symm,fun h=>?_,hb0'⟩
     rw [HG.out] at h
     cases h
end
end Be
end Go.Proofs.YtegjjhjgfkcbhaaGreatDoor
