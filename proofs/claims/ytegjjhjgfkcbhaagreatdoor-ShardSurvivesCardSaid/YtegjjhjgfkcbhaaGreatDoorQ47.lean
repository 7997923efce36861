/- SRecOf. Conditions: as each part says. -/
import Derived.Test.YtegjjhjgfkcbhaaGreatDoorQ46
import Derived.Test.YtegjjhjgfkcbhaaGreatDoorQ33
import Derived.Test.YtegjjhjgfkcbhaaGreatDoorQ06
import Derived.Test.YtegjjhjgfkcbhaaGreatDoorQ44
import Derived.Test.YtegjjhjgfkcbhaaGreatDoorQ31
import Derived.Deep.RegionLaw
import Derived.DataShut
set_option linter.unusedVariables false
set_option linter.unusedSimpArgs false
set_option maxRecDepth 100000
set_option maxHeartbeats 16000000
namespace Go.Proofs.YtegjjhjgfkcbhaaGreatDoor
section
open Go Go.RowKit
def ValsAt (w : World) (b o : Nat) (L : List Be.T) : Prop:=∀ k (hk : k < L.length),∃ A' c',b < w.heap.size /\ w.cell? ⟨b,o + k * 4,none⟩ = some (.int .i64 L[k].k) /\ w.cell? ⟨b,o + k * 4 + 1,none⟩ = some (.int .i64 L[k].n) /\ w.cell? ⟨b,o + k * 4 + 2,none⟩ = some (.string L[k].s) /\ w.cell? ⟨b,o + k * 4 + 3,none⟩ = some (.slice A' L[k].l.length c') /\
 ∃ ys,Be.ReadsP (fun x=>x < w.heap.size) w 4 A' L[k].l.length ys /\ Be.RdL (fun x=>x < w.heap.size) w L[k].l ys /\ L[k].l.length <= c' /\ c' <= maxLen
theorem ValsAt.of {ok : Nat -> Prop} {w : World} {A : Option Addr} {L : List Be.T} {xs : List Value} (hr : Be.ReadsP ok w 4 A L.length xs) (hl : Be.RdL ok w L xs) (h0 : 0 < L.length) : ∃ b o,A = some ⟨b,o,none⟩ /\ b < w.heap.size /\ ValsAt w b o L:=by
 obtain ⟨b,o,A0,c0,rfl,_,hb,_,_,e0,e1,e2,e3⟩:=Be.elem_at hr hl h0
 refine ⟨b,o,rfl,hb,fun k hk=>?_⟩
 obtain ⟨b',o',A1,c1,he,_,hb',_,hra,f0,f1,f2,f3⟩:=Be.elem_at hr hl hk
 cases he
 obtain ⟨A2,c2,ys,hv,_,h3,h4,h5,h6⟩:=hra
 cases hv
 exact ⟨A1,c1,hb',f0,f1,f2,f3,ys,h5.mono (fun b hb hl=>hl),Be.RdL.mono (fun b hb hl=>hl) _ _ h6,h3,h4⟩
structure RecDone (w wz : World) (X : Nat) (r : RK) : Prop where
 ex : ∃ A n c l,Row wz X 107 (rcl r.rc (.slice A n c)) /\ Pts wz wz.heap.size A n l /\ l.map bareP = r.rc.ps /\ ((∀ ad,A = some ad -> w.heap.size < ad.block) /\ ∀ q ∈ l,∀ ad,q.2.1.1 = some ad -> w.heap.size < ad.block)
 bel : Below w.heap.size w wz
 res : Row wz w.heap.size 107 (setN 0 [] 0)
theorem RecDone.mt {w wz : World} {X : Nat} {r : RK} (h : Row wz X 107 (rcl { r.rc with tb:=.empty,ps:=[] } (.slice none 0 0))) (ht : (tbT r.rc.tb ++ r.rc.ps.map ptT).length = 0) (hb : Below w.heap.size w wz) (hr : Row wz w.heap.size 107 (setN 0 [] 0)) : RecDone w wz X r:=by
 obtain ⟨h1,h2⟩:=List.append_eq_nil_iff.1 (List.eq_nil_of_length_eq_zero ht)
 have h3 : r.rc.ps = []:=by simpa using h2
 have h4 : r.rc.tb = .empty:=by
  unfold tbT at h1
  split at h1
  ·rename_i h
   exact ByteArray.ext (Array.eq_empty_of_size_eq_zero (by simpa using h))
  ·cases h1
 refine ⟨⟨none,0,0,[],?_,⟨Reads.none_,(fun q hq=>by cases hq)⟩,by rw [h3];rfl,(fun ad e=>by cases e),(fun q hq=>by cases hq)⟩,hb,hr⟩
 have : rcl { r.rc with tb:=.empty,ps:=[] } (.slice none 0 0) = rcl r.rc (.slice none 0 0):=by
  unfold rcl
  rw [h4]
 rw [<- this]
 exact h
theorem rec10 : (Tryz.prog.info? 107).map (·.size) = some 10:=by kernel_rfl
theorem res_rec {fn : Func} {p : Tmp} (hf : fn.results = #[.cell p 107]) (tmps : Array Value) {w : World} {b : Nat} {xs : List Value} (h : Row w b 107 xs) (hl : xs.length = 10) (hp : tmps.getD p undef = .pointer (some ⟨b,0,none⟩)) :
  (results fn tmps).run Tryz.prog w = .ok (.agg xs.toArray) w:=by
 have:=run_loadVar_mid w b 0 107 xs _ (fun j v hv=>by rw [Nat.zero_add];exact h.cell hv) Tryz.underlying107 rfl (by rw [hl];exact rec10)
 simp only [results,hf]
 have hp' : tmps[p]?.getD undef = .pointer (some ⟨b,0,none⟩):=by simpa using hp
 simp [Sem.run_bind,Result.andThen,hp',asAddr,this]
theorem tail_one (r : RK) (hnp : ∀ m,r ≠ .pts m) (h : (tbT r.rc.tb ++ r.rc.ps.map ptT).length = 1) : ∃ t,tbT r.rc.tb ++ r.rc.ps.map ptT = [t] /\ ((t = .mk 2 0 r.rc.tb [] /\ r.rc.ps = []) \/ ∃ p,t = ptT p /\ r.rc.ps = [p] /\ r.rc.tb = .empty):=by
 cases r with
 | pts l=>exact absurd rfl (hnp l)
 | stand st ep mv =>
  have h' : (tbT ByteArray.empty ++ List.map ptT []).length = 1:=h
  exact absurd h' (by decide)
 | ins cl sq p=>exact ⟨ptT p,rfl,.inr ⟨p,rfl,rfl,rfl⟩⟩
 | drop cl sq x=>exact ⟨ptT (x,[]),rfl,.inr ⟨(x,[]),rfl,rfl,rfl⟩⟩
 | whole st ep mv vr dm q =>
  have e : (RK.whole st ep mv vr dm q).rc.ps = []:=rfl
  rw [e,List.map_nil,List.append_nil] at h ⊢
  unfold tbT at h ⊢
  split at h
  ·cases h
  ·rename_i hs
   rw [if_neg hs]
   exact ⟨_,rfl,.inl ⟨rfl,rfl⟩⟩
theorem below_of_none {w w' : World} (hg : w.grownBy w' none) {B : Nat} (hB : B <= w.heap.size) : Below B w w':=⟨hg.os,hg.tape,hg.output,by have:=hg.size;omega,fun b hb=>hg.block b (by omega) (by simp)⟩
theorem RecDone.pt {w w4 w5 w10 : World} {X : Nat} {r : RK} {p : Pnt} {A2 : Option Addr} {c2 g cap : Nat} (hrow : Row w4 X 107 (rcl { r.rc with tb:=.empty,ps:=[] } (.slice none 0 0))) (hps : r.rc.ps = [p]) (htb : r.rc.tb = .empty)
  (hbw : Below w.heap.size w w4) (hres : Row w4 w.heap.size 107 (setN 0 [] 0)) (hXw : w.heap.size < X) (h45 : Below w4.heap.size w4 w5) (hRd : Reads w5 w5.heap.size 1 A2 p.2.length (ints p.2)) (hA2 : ∀ ad,A2 = some ad -> w4.heap.size <= ad.block)
  (hown : w10.ownsRow w5.heap.size 104 2 (.slice (some ⟨g,0,none⟩) 1 cap) 1 [.int .i64 p.1,.slice A2 p.2.length c2]) (hg : (w5.alloc (.cells #[.int .i64 p.1,.slice A2 p.2.length c2] 104)).grownBy w10 none) (hok : OkPnt p) :
  RecDone w (w10.setCell ⟨X,9,none⟩ (.slice (some ⟨g,0,none⟩) 1 cap)) X r /\ Row w10 X 107 (rcl { r.rc with tb:=.empty,ps:=[] } (.slice none 0 0)):=by
 have hXl:=hrow.lt
 have hrl:=hres.lt
 have hs5:=h45.size
 have h510 : Below w5.heap.size w5 w10:=((Below.refl _ w5).alloc (Nat.le_refl _) (.cells #[.int .i64 p.1,.slice A2 p.2.length c2] 104)).trans (below_of_none hg (by simp))
 have h410 : Below w4.heap.size w4 w10:=h45.trans (h510.mono hs5)
 have hs10:=h510.size
 have hX10:=hrow.keep (h410.block _ hXl)
 have hr10:=hres.keep (h410.block _ hrl)
 have hgl:=own_far hown g rfl
 have hlen:=(OkPnt.vec hok).1
 refine ⟨⟨⟨some ⟨g,0,none⟩,1,cap,[(p.1,(A2,p.2.length,c2),p.2)],?_,⟨?_,fun q hq=>?_⟩,by rw [hps];rfl,fun ad e=>?_,fun q hq ad e=>?_⟩,?_,?_⟩,hX10⟩
 ·have e : rcl r.rc (.slice (some ⟨g,0,none⟩) 1 cap) = (rcl { r.rc with tb:=.empty,ps:=[] } (.slice none 0 0)).set 9 (.slice (some ⟨g,0,none⟩) 1 cap):=by
   unfold rcl
   rw [htb]
   rfl
  rw [e]
  exact hX10.set 9 _
 ·have hk : (w10.setCell ⟨X,9,none⟩ (.slice (some ⟨g,0,none⟩) 1 cap)).ownsRow w5.heap.size 104 2 (.slice (some ⟨g,0,none⟩) 1 cap) 1 [.int .i64 p.1,.slice A2 p.2.length c2]:=own_keep hown (fun g' hg'=>heap_set_ne w10 _ _ (by have:=own_far hown g' hg';show g' ≠ X;omega))
  exact Reads.of_own hk
 ·simp only [List.mem_singleton] at hq
  subst hq
  refine ⟨⟨?_,by show p.2.length <= maxLen;unfold maxLen;omega⟩,?_⟩
  ·refine ⟨hRd.1,fun h0=>?_⟩
   obtain ⟨ad,e,hb,hc⟩:=hRd.2 h0
   have had:=hA2 ad e
   refine ⟨ad,e,by simp;omega,fun j u hj=>?_⟩
   have h1:=(h510.cell (p:=ad.add j) (by rw [block_of_add];exact hb)).trans (hc j u hj)
   rw [<- h1]
   exact World.cell?_of_block (heap_set_ne w10 _ _ (by rw [block_of_add];show ad.block ≠ X;omega))
  ·have h1:=hok.1
   rw [Lit.wf_int_iff]
   have e1 : IntKind.i64.min = -9223372036854775808:=by decide
   have e2 : IntKind.i64.max = 9223372036854775807:=by decide
   have:=h1.1
   have:=h1.2
   show IntKind.i64.min <= p.1 /\ p.1 <= IntKind.i64.max
   omega
 ·cases e
  have:=hbw.size
  show w.heap.size < g
  omega
 ·simp only [List.mem_singleton] at hq
  subst hq
  have:=hA2 ad e
  have:=hbw.size
  omega
 ·exact below_setCell (hbw.trans (h410.mono hbw.size)) (Nat.le_of_lt hXw) _
 ·exact hr10.keep (heap_set_ne w10 _ _ (by show w.heap.size ≠ X;omega))
theorem recOf_any (r : RK) (hok : r.rc.Ok) (hnp : ∀ m,r ≠ .pts m) (w : World) : Calls Tryz.prog 103 #[.string ⟨r.bytes.toArray⟩] w (RecPost r w):=by
 obtain ⟨W0,hW0⟩ : ∃ W0,w.alloc (.cells (setN 0 [] 0).toArray 107) = W0:=⟨_,rfl⟩
 have hs : (⟨r.bytes.toArray⟩ : ByteArray).size <= 1000000000:=by
  have:=recB_len hok
  simp [ByteArray.size,RK.bytes]
  omega
 have hon:=Be.only_any ⟨r.bytes.toArray⟩ hs W0
 rw [show Be.onlyRes (⟨r.bytes.toArray⟩ : ByteArray).data.toList = .ok (recT r.rc) from rec_only hok] at hon
 have HON:=Lib.hid hon
 have HW0:=Lib.hid hW0
 have b0 : Below w.heap.size w W0:=by rw [<- hW0];exact (Below.refl _ _).alloc (Nat.le_refl _) _
 have r0 : Row W0 w.heap.size 107 (setN 0 [] 0):=by rw [<- hW0];exact Row.new w 107 (setN 0 [] 0)
 have HB0:=Lib.hid b0
 have HR0:=Lib.hid r0
 generalize hsv : (⟨r.bytes.toArray⟩ : ByteArray) = sv at *
 clear hon hW0 b0 r0 hs hsv
 simp only [setN] at HW0 HR0
 go_enter Tryz.func103,Tryz.ntmps103
 go_wp2_with fail
 rw [show w.alloc (.cells #[.int .i64 0,.int .i64 0,.int .i64 0,.int .i64 0,.int .i64 0,.int .i64 0,.int .i64 0,.int .i64 0,.string ⟨#[]⟩,.slice none 0 0] 107) = W0 from HW0.out]
 go_wp2_with fail
 refine HON.out.mono ?_
 rintro e w1 ⟨v,rfl,hv,hb1⟩
 obtain ⟨A,c,xs,rfl,_,hc,hcm,hr,hl⟩:=hv
 replace hr : Be.ReadsP _ w1 4 A (recL r.rc).length xs:=hr
 replace hl : Be.RdL _ w1 (recL r.rc) xs:=hl
 replace hc : (recL r.rc).length <= c:=hc
 have hlen : (recL r.rc).length = r.rc.nums.length + (tbT r.rc.tb ++ r.rc.ps.map ptT).length + 1:=by
  unfold recL
  rw [List.length_cons,List.length_append,List.length_map]
 obtain ⟨b,o,rfl,hbl,hva⟩:=ValsAt.of hr hl (by rw [hlen];omega)
 obtain ⟨m,hm⟩ : ∃ m,m = r.rc.nums.length + (tbT r.rc.tb ++ r.rc.ps.map ptT).length:=⟨_,rfl⟩
 rw [<- hm] at hlen
 rw [hlen] at hc
 have hm1 : 1 <= m:=by
  cases r with
  | pts l=>exact absurd rfl (hnp l)
  | whole | stand | ins | drop=>simp [RK.rc,Rec.nums] at hm;omega
 have hc1 : ¬ c = 1:=by omega
 obtain ⟨W2,hW2⟩ : ∃ W2,(w1.alloc (.cells #[.int .i64 3,.int .i64 0,.string .empty,.slice (some ⟨b,o,none⟩) (m + 1) c] 202)).alloc (.cells (setN r.rc.kd r.rc.nums 0).toArray 107) = W2:=⟨_,rfl⟩
 have e1 : w1.cell? ⟨b,o + 1,none⟩ = some (.int .i64 r.rc.kd):=by
  obtain ⟨A0,c0,_,_,h2,_⟩:=hva 0 (by omega)
  simpa [recL,Be.tN,Be.T.n] using h2
 have HVA:=Lib.hid hva
 have HM:=Lib.hid hm
 have HLn:=Lib.hid hlen
 have HBW:=Lib.hid hb1
 have HB1:=Lib.hid (HB0.out.trans (hb1.mono HB0.out.size))
 have HOK:=Lib.hid hok
 have HNP:=Lib.hid hnp
 rw [show (recT r.rc).l.length = m + 1 from hlen,show (recT r.rc).k = 3 from rfl,show (recT r.rc).n = 0 from rfl,show (recT r.rc).s = .empty from rfl]
 obtain ⟨kd,hkd⟩ : ∃ kd,r.rc.kd = kd:=⟨_,rfl⟩
 rw [hkd] at e1
 have HKD:=Lib.hid hkd
 clear hva hm hlen hb1 hok hnp hr hl hkd HON HW0
 have hX : w1.heap.size + 1 < W2.heap.size:=by rw [<- hW2];simp
 have b2 : Below w1.heap.size w1 W2:=by rw [<- hW2];exact ((Below.refl _ _).alloc (Nat.le_refl _) _).alloc (by simp) _
 have r2 : Row W2 (w1.heap.size + 1) 107 (setN kd r.rc.nums 0):=by
  rw [<- hW2,HKD.out]
  have:=Row.new (w1.alloc (.cells #[.int .i64 3,.int .i64 0,.string .empty,.slice (some ⟨b,o,none⟩) (m + 1) c] 202)) 107 (setN kd r.rc.nums 0)
  rw [World.size_alloc] at this
  exact this
 have HNU:=Lib.hid (nums_any (w:=W2) r2)
 have HW2:=Lib.hid (show (w1.alloc (.cells #[.int .i64 3,.int .i64 0,.string .empty,.slice (some ⟨b,o,none⟩) (m + 1) c] 202)).alloc (.cells #[.int .i64 kd,.int .i64 0,.int .i64 0,.int .i64 0,.int .i64 0,.int .i64 0,.int .i64 0,.int .i64 0,.string ⟨#[]⟩,.slice none 0 0] 107) = W2 by rw [<- hW2,HKD.out];rfl)
 have HB2:=Lib.hid b2
 have HR2:=Lib.hid r2
 have HX:=Lib.hid hX
 clear hW2 b2 r2 hX
 go_wp2_with fail
 rw [HW2.out]
 refine HNU.out.mono ?_
 intro e w3 hpost
 unfold NumsPost at hpost
 obtain ⟨A3,n3,c3,rfl,hn3,hR3,hA3,hb3⟩:=hpost
 have hnl : r.rc.nums.length = n3:=by rw [nums_idxs r,HKD.out,<- hn3]
 have hn3m : n3 <= m:=by have:=HM.out;omega
 have HN3:=Lib.hid hn3
 have HNL:=Lib.hid hnl
 have HR3:=Lib.hid hR3
 have HA3:=Lib.hid hA3
 have HB3:=Lib.hid hb3
 have HRX:=Lib.hid (HR2.out.keep (hb3.block _ HR2.out.lt))
 clear hn3 hnl hR3 hA3 hb3 HW2 HNU e1 hbl
 have hbl:=(HVA.out 0 (by have:=HLn.out;omega)).choose_spec.choose_spec.1
 have hn31 : n3 <= 5:=by
  rw [HN3.out]
  rcases idxs_cases kd with e | e | e | e <;> rw [e] <;> simp
 generalize hX : w1.heap.size + 1 = X at *
 have HXX:=Lib.hid hX
 clear hX
 go_wp2_with fail
 go_loopw [6,36] (fun rv i wr=>∃ (k c6 q : Nat),i = .int .i64 (k : Int) /\ k <= n3 /\ rv = .slice (some ⟨b,q,none⟩) (m - k) c6 /\ m - k <= c6 /\ (k < m -> q = o + 4 + k * 4) /\ Row wr X 107 (setN kd r.rc.nums k) /\ w3.grownBy wr (some X)) (fun _ i _=>n3 - (intOf i).toNat)
 case atStart=>exact ⟨0,c - 1,o + 4,rfl,Nat.zero_le _,rfl,by omega,fun _=>by omega,HRX.out,Be.grown_below (Below.refl _ _) _⟩
 case round =>
  obtain ⟨k,c6,q,rfl,hk,rfl,hkc,hq,hrow,hg⟩:=hrel
  by_cases hlt : k < n3
  ·have hltz : (k : Int) < (n3 : Int):=by omega
   obtain ⟨j,hj⟩ : ∃ j,m - k = j + 1:=⟨m - k - 1,by omega⟩
   have hqq : q = o + 4 + k * 4:=hq (by omega)
   obtain ⟨ad,had,hadl,hcell⟩:=HR3.out.2 (by omega)
   have hadX : ad.block ≠ X:=by
    have h1:=HA3.out ad had
    have h2:=HX.out
    omega
   have hik : (idxP X kd)[k]? = some (.pointer (some ⟨X,(idxs kd).getD k 0,none⟩)):=by
    have hk' : k < (idxs kd).length:=by rw [<- HN3.out];exact hlt
    simp [idxP,List.getElem?_map,List.getElem?_eq_getElem hk']
   have hcp:=hcell k _ hik
   have hkX : ∀ p : Addr,p.block < w3.heap.size -> p.block ≠ X -> wr.cell? p = w3.cell? p:=fun p h1 h2=>by
    rw [World.cell?,World.cell?,hg.block _ h1 (fun e=>by cases e;exact h2 rfl)]
   have cp : wr.cell? (ad.add k) = some (.pointer (some ⟨X,(idxs kd).getD k 0,none⟩)):=(hkX _ (by rw [block_of_add];exact hadl) (by rw [block_of_add];exact hadX)).trans hcp
   have hk1 : k + 1 < (recL r.rc).length:=by have:=HLn.out;omega
   obtain ⟨A',c',_,_,g1,_,_⟩:=HVA.out (k + 1) hk1
   have hnk : (recL r.rc)[k + 1].n = r.rc.nums.getD k 0:=by
    have hk2 : k < r.rc.nums.length:=by have:=HNL.out;omega
    simp only [recL,List.getElem_cons_succ]
    rw [List.getElem_append_left (by simpa using hk2),List.getElem_map,List.getD_eq_getElem?_getD,List.getElem?_eq_getElem hk2]
    rfl
   rw [hnk,show o + (k + 1) * 4 = q by omega] at g1
   obtain ⟨y,hy⟩ : ∃ y,r.rc.nums.getD k 0 = y:=⟨_,rfl⟩
   rw [hy] at g1
   have hw13 : Below w1.heap.size w1 w3:=HB2.out.trans (HB3.out.mono HB2.out.size)
   have hbX : b ≠ X:=by have:=HXX.out;omega
   have d1 : wr.cell? ⟨b,q + 1,none⟩ = some (.int .i64 y):=(hkX ⟨b,q + 1,none⟩ (Nat.lt_of_lt_of_le hbl hw13.size) hbX).trans ((hw13.cell (p:=⟨b,q + 1,none⟩) hbl).trans g1)
   have t0 : wr.cell? ⟨X,(idxs kd).getD k 0,none⟩ = some (.int .i64 0):=hrow.cell (setN_at (by rw [<- HN3.out];exact hlt))
   have tz:=hrow.frozen ((idxs kd).getD k 0)
   have tl:=hrow.lt
   have HSET:=Lib.hid (hrow.set ((idxs kd).getD k 0) (.int .i64 y))
   have HGS:=Lib.hid (Be.grown_setCell hg ⟨X,(idxs kd).getD k 0,none⟩ rfl (.int .i64 y))
   have hst : (setN kd r.rc.nums k).set ((idxs kd).getD k 0) (.int .i64 y) = setN kd r.rc.nums (k + 1):=by rw [<- hy];rfl
   have HSTE:=Lib.hid hst
   have hadr : ad.block < wr.heap.size:=Nat.lt_of_lt_of_le hadl hg.size
   have hbr : b < wr.heap.size:=Nat.lt_of_lt_of_le (Nat.lt_of_lt_of_le hbl hw13.size) hg.size
   have HHAD:=Lib.hid had
   generalize (idxs kd).getD k 0 = ix at *
   rw [hj] at hkc
   have hjc : j + 1 <= c6:=hkc
   have HQ:=Lib.hid hqq
   have HJ:=Lib.hid hj
   rw [hj]
   subst had
   clear hcell hik hcp g1 hnk hy hst hrow hg hkX hq hqq hj HHAD hadl hadX hbX hw13
   by_cases hc61 : c6 = 1
   ·subst hc61
    obtain rfl : j = 0:=by omega
    go_wp2_with fail
    go_region
    all_goals go_wp2_with fail
    have hj:=HJ.out
    refine ⟨⟨k + 1,0,q,by go_num,by omega,by rw [show m - (k + 1) = 0 by omega],by omega,fun h=>by omega,?_,Be.grown_drewN HGS.out 1⟩,by simp [intOf];omega⟩
    have:=HSET.out
    rw [HSTE.out] at this
    exact this
   ·go_wp2_with fail
    go_region
    all_goals go_wp2_with fail
    have hj:=HJ.out
    have hqe:=HQ.out
    refine ⟨⟨k + 1,c6 - 1,q + 4,by go_num,by omega,by rw [show m - (k + 1) = j by omega],by omega,fun h=>by omega,?_,Be.grown_drewN HGS.out 1⟩,by simp [intOf];omega⟩
    have:=HSET.out
    rw [HSTE.out] at this
    exact this
  ·obtain rfl : k = n3:=by omega
   have hend : setN kd r.rc.nums k = rcl { r.rc with tb:=.empty,ps:=[] } (.slice none 0 0):=by
    rw [HN3.out,<- HKD.out]
    exact setN_end r
   have htl : (tbT r.rc.tb ++ r.rc.ps.map ptT).length = m - k:=by have:=HM.out;have:=HNL.out;omega
   have htl1 : m - k <= 1:=by
    rw [<- htl]
    have hnp:=HNP.out
    cases r with
    | pts l=>exact absurd rfl (hnp l)
    | whole st ep mv vr dm q =>
     have:=tbT_len (RK.whole st ep mv vr dm q).rc.tb
     simpa [RK.rc,rec0] using this
    | stand | ins | drop=>simp [RK.rc,rec0,tbT]
   have hbw3 : Below w.heap.size w w3:=(HB1.out.trans (HB2.out.mono HB1.out.size)).trans (HB3.out.mono (by have:=HB1.out.size;have:=HB2.out.size;omega))
   have hXw : w.heap.size < X:=by have:=HXX.out;have:=HB1.out.size;omega
   have hbw : Below w.heap.size w wr:=hbw3.grown hg (by have:=hg.size;have:=hbw3.size;omega) (fun g e=>by cases e;omega)
   have h0s : w.heap.size < W0.heap.size:=HR0.out.lt
   have hw13 : Below w1.heap.size w1 w3:=HB2.out.trans (HB3.out.mono HB2.out.size)
   have hres : Row wr w.heap.size 107 (setN 0 [] 0):=by
    have h1:=HR0.out.keep (HBW.out.block _ HR0.out.lt)
    have h3:=h1.keep (hw13.block _ h1.lt)
    exact h3.keep (hg.block _ h3.lt (fun e=>by cases e;omega))
   rw [hend] at hrow
   obtain ⟨w4,hw4⟩ : ∃ w4,w4 = wr:=⟨_,rfl⟩
   subst hw4
   obtain ⟨j,hj⟩ : ∃ j,j = m - k:=⟨_,rfl⟩
   rw [<- hj] at htl htl1 hkc ⊢
   have hD0 : j = 0 -> RecDone w w4 X r:=fun h=>RecDone.mt hrow (by omega) hbw hres
   have HD0:=Lib.hid hD0
   have HROW:=Lib.hid hrow
   have HG:=Lib.hid hg
   have HBWr:=Lib.hid hbw
   have HRES:=Lib.hid hres
   have HJ:=Lib.hid hj
   have HTL:=Lib.hid htl
   have HEND:=Lib.hid hend
   have HW13:=Lib.hid hw13
   have HQ2:=Lib.hid hq
   clear hrow hg hbw hres hD0 hj htl hend hbw3 hw13 hq
   go_wp2_with fail
   go_loopw [55] (fun vi wz=>∃ i : Nat,vi = .int .i64 (i : Int) /\ i <= j /\ ((i < j /\ wz = w4) \/ (i = j /\ RecDone w wz X r))) (fun vi _=>j - (intOf vi).toNat)
   case atStart =>
    refine ⟨0,rfl,Nat.zero_le _,?_⟩
    rcases Nat.eq_zero_or_pos j with h | h
    ·exact .inr ⟨h.symm,HD0.out h⟩
    ·exact .inl ⟨h,rfl⟩
   case round =>
    obtain ⟨i,rfl,hi,⟨hij,rfl⟩ | ⟨rfl,hd⟩⟩:=hrel
    ·obtain rfl : i = 0:=by omega
     obtain rfl : j = 1:=by omega
     have hm1':=HM.out
     have hkn:=HNL.out
     have hj:=HJ.out
     obtain ⟨A',c',_,g0,g1,g2,g3,ys,hys,hyl,hyc,hym⟩:=HVA.out (k + 1) (by have:=HLn.out;omega)
     have hLk : (recL r.rc)[k + 1]'(by have:=HLn.out;omega) = (tbT r.rc.tb ++ r.rc.ps.map ptT)[0]'(by rw [HTL.out];omega):=by
      simp only [recL,List.getElem_cons_succ]
      rw [List.getElem_append_right (by simp;omega)]
      congr 1
      simp
      omega
     rw [hLk] at g0 g1 g2 g3 hys hyl hyc
     rw [show o + (k + 1) * 4 = q by have:=HQ2.out (by omega);omega] at g0 g1 g2 g3
     have hbX : b ≠ X:=by have:=HXX.out;omega
     have hkX : ∀ i v,w1.cell? ⟨b,i,none⟩ = some v -> wr.cell? ⟨b,i,none⟩ = some v:=fun i v h=>by
      have h3:=(HW13.out.cell (p:=⟨b,i,none⟩) hbl).trans h
      rw [World.cell?] at h3 ⊢
      rw [HG.out.block _ (Nat.lt_of_lt_of_le hbl HW13.out.size) (fun e=>by cases e;exact hbX rfl)]
      exact h3
     have d0:=hkX _ _ g0
     have d1:=hkX _ _ g1
     have d2:=hkX _ _ g2
     have d3:=hkX _ _ g3
     have hbr : b < wr.heap.size:=Nat.lt_of_lt_of_le (Nat.lt_of_lt_of_le hbl HW13.out.size) HG.out.size
     have x8:=HROW.out.cell (j:=8) (u:=.string .empty) rfl
     have x9:=HROW.out.cell (j:=9) (u:=.slice none 0 0) rfl
     have xz:=fun j=>HROW.out.frozen j
     have xl:=HROW.out.lt
     clear g0 g1 g2 g3 hkX
     obtain ⟨t,htt,hcase⟩:=tail_one r HNP.out HTL.out
     have ht0 : (tbT r.rc.tb ++ r.rc.ps.map ptT)[0]'(by rw [HTL.out];omega) = t:=by simp only [htt];rfl
     rw [ht0] at d0 d1 d2 d3 hys hyl hyc
     rcases hcase with ⟨rfl,hps⟩ | ⟨p,rfl,hps,htb⟩
     ·simp only [Be.T.k,Be.T.n,Be.T.s,Be.T.l,List.length_nil] at d0 d1 d2 d3
      obtain ⟨tb,hTB⟩ : ∃ tb,r.rc.tb = tb:=⟨_,rfl⟩
      rw [hTB] at d2
      have HTB:=Lib.hid hTB
      have HPS:=Lib.hid hps
      clear hTB hps ht0 htt hys hyl hyc hLk hm1' hkn hj
      go_wp2_with fail
      have hXs : w.heap.size < X:=by have:=HXX.out;have:=HB1.out.size;omega
      have hsz : (wr.setCell ⟨X,8,none⟩ (.string tb)).heap.size = wr.heap.size:=by simp
      have hsw:=HBWr.out.size
      have hrl:=HRES.out.lt
      have hrA : Row ((wr.setCell ⟨X,8,none⟩ (.string tb)).alloc (.cells #[.int .i64 2,.int .i64 0,.string tb,.slice A' 0 c'] 202)) X 107 (rcl r.rc (.slice none 0 0)):=by
       have e : rcl r.rc (.slice none 0 0) = (rcl { r.rc with tb:=.empty,ps:=[] } (.slice none 0 0)).set 8 (.string tb):=by rw [<- HTB.out];rfl
       rw [e]
       exact (HROW.out.set 8 (.string tb)).keep (heap_alloc_lt _ _ (by rw [hsz];exact HROW.out.lt))
      have hbA : Below w.heap.size w ((wr.setCell ⟨X,8,none⟩ (.string tb)).alloc (.cells #[.int .i64 2,.int .i64 0,.string tb,.slice A' 0 c'] 202)):=(HBWr.out.setCell (p:=⟨X,8,none⟩) (Nat.le_of_lt hXs) (.string tb)).alloc (by rw [hsz];exact hsw) _
      have hzA : Row ((wr.setCell ⟨X,8,none⟩ (.string tb)).alloc (.cells #[.int .i64 2,.int .i64 0,.string tb,.slice A' 0 c'] 202)) w.heap.size 107 (setN 0 [] 0):=(HRES.out.keep (heap_set_ne _ _ _ (show w.heap.size ≠ X by omega))).keep (heap_alloc_lt _ _ (by rw [hsz];exact hrl))
      exact ⟨⟨1,rfl,Nat.le_refl _,.inr ⟨rfl,⟨none,0,0,[],hrA,⟨Reads.none_,(fun q hq=>by cases hq)⟩,by rw [HPS.out];rfl,(fun ad e=>by cases e),(fun q hq=>by cases hq)⟩,hbA,hzA⟩⟩,by simp [intOf]⟩
     ·have hpt : ptT p = .mk 3 0 .empty (Be.tN p.1 :: p.2.map Be.tN):=rfl
      rw [hpt] at d0 d1 d2 d3 hys hyl hyc
      simp only [Be.T.k,Be.T.n,Be.T.s,Be.T.l,List.length_cons,List.length_map] at d0 d1 d2 d3 hys hyl hyc
      have hp2 : p.2.length <= 1000:=by
       have:=(OkPnt.vec (HOK.out.pts p (by rw [hps];simp))).1
       omega
      have hkp : Be.Keeps (fun x=>x < w1.heap.size) w1 wr:=(Be.Keeps.of_below HW13.out (fun b hb _=>hb)).trans (Be.Keeps.of_grown HG.out (fun b hb e=>by cases e;have:=HXX.out;omega))
      have hys':=hys.keep hkp
      have hyl':=Be.RdL.keep hkp _ _ hyl
      have HYS:=Lib.hid (And.intro hys' (And.intro hyl' (And.intro hyc hym)))
      obtain ⟨pn,hpn⟩ : ∃ pn,p.2.length = pn:=⟨_,rfl⟩
      have HPN:=Lib.hid hpn
      have HPS:=Lib.hid hps
      have HTB:=Lib.hid htb
      rw [hpn] at d3
      obtain ⟨V,hVd⟩ : ∃ V,wr.alloc (.cells #[.int .i64 3,.int .i64 0,.string .empty,.slice A' (pn + 1) c'] 202) = V:=⟨_,rfl⟩
      have hbV : Below wr.heap.size wr V:=by rw [<- hVd];exact (Below.refl _ _).alloc (Nat.le_refl _) _
      have hbVd : Below wr.heap.size wr V.drew:=hbV.drew
      have rV : Row V wr.heap.size 202 [.int .i64 3,.int .i64 0,.string .empty,.slice A' (pn + 1) c']:=by rw [<- hVd];exact Row.new wr _ _
      have v3:=rV.cell (j:=3) rfl
      have vl:=rV.lt
      have x9V : V.cell? ⟨X,9,none⟩ = some (.slice none 0 0):=(hbV.cell (p:=⟨X,9,none⟩) xl).trans x9
      have xlV : X < V.heap.size:=Nat.lt_of_lt_of_le xl hbV.size
      have hokp : OkPnt p:=HOK.out.pts p (by rw [hps];simp)
      have hkV:=Be.Keeps.of_below (ok:=fun x=>x < w1.heap.size) hbVd (fun b hb _=>Nat.lt_of_lt_of_le (Nat.lt_of_lt_of_le hb HW13.out.size) HG.out.size)
      have HCV : Hid (Calls Tryz.prog 146 #[.slice A' (pn + 1) c'] V.drew (PtPost p.1 p.2 V.drew)):=Lib.hid (by
       rw [<- hpn]
       exact ptOf_any p.1 p.2 A' c' _ ys V.drew (hys'.keep hkV) (Be.RdL.keep hkV _ _ hyl') hyc hym hp2)
      have HBVd:=Lib.hid hbVd
      have HOKP:=Lib.hid hokp
      have HVD:=Lib.hid hVd
      have hXw2 : w.heap.size < X:=by have:=HXX.out;have:=HB1.out.size;omega
      have HXW:=Lib.hid hXw2
      obtain ⟨i0,hi,hz0,hz1,hz2⟩:=info_parts pt_row
      clear hps htb ht0 htt hys hyl hyc hym hLk hm1' hkn hj hpt hkp hys' hyl' hpn hp2 hVd hbV hbVd rV hokp hkV hXw2
      go_wp2_with fail
      rw [HVD.out]
      go_region_law (first
       | (go_simp;go_at_call 146;refine HCV.out.mono ?_;rintro e w5 ⟨A2,c2,rfl,hRd,hA2,hb5⟩;have hb45:=HBVd.out.trans (hb5.mono HBVd.out.size);have x95 : w5.cell? ⟨X,9,none⟩ = some (.slice none 0 0):=(hb45.cell (p:=⟨X,9,none⟩) xl).trans x9;have xl5 : X < w5.heap.size:=Nat.lt_of_lt_of_le xl hb45.size;have HP5:=Lib.hid (And.intro hRd (And.intro (fun ad e=>Nat.le_trans HBVd.out.size (hA2 ad e)) hb45));clear hRd hA2 hb5 hb45)
       | (refine step_append_lies _ rfl (.tmp 72) (.tmp 76) 38 rfl w5.heap.size 104 i0 _ 2 32 Tryz.underlying38 hi hz0 hz1 hz2 rfl (by decide) (.slice none 0 0) 0 [] rfl (World.ownsRow_nil ..) ⟨w5.heap.size,0,none⟩ 1 1 [.int .i64 p.1,.slice A2 p.2.length c2] rfl rfl (fun j u hu=>news_cells w5 #[.int .i64 p.1,.slice A2 p.2.length c2] 104 j u (by simpa using hu)) (by intro u hu;simp at hu;rcases hu with rfl | rfl <;> rfl) (by omega) (by unfold maxLen;omega) (by omega) (by simp) (w5.heap.size + 1) (by simp) ?_;intro g cap w10 hown10 hg10 ho10 hlt10;rw [show (0 + 1 : Nat) = 1 from rfl];have hfin:=RecDone.pt HROW.out HPS.out HTB.out HBWr.out HRES.out HXW.out HP5.out.2.2 HP5.out.1 HP5.out.2.1 hown10 hg10 HOKP.out;have r10:=hfin.2;have z10:=r10.frozen 9;have k10:=r10.cell (j:=9) (u:=.slice none 0 0) rfl;have l10:=r10.lt;have HFIN:=Lib.hid hfin.1;clear hfin r10 hown10 hg10 ho10 hlt10))
      all_goals
       go_wp2_with fail
       go_roundw
       case rel=>exact ⟨_,_,_,_,_,_,_,_,_,_,_,_,_,_,_,_,_,_,_,_,_,_,_,_,_,_,⟨1,rfl,Nat.le_refl _,.inr ⟨rfl,HFIN.out⟩⟩,rfl⟩
       case measure=>simp [intOf]
    ·obtain ⟨A,n,c,l,hr,hP,hlm,hfr⟩:=hd.ex
     have HDn:=Lib.hid hd
     have HP:=Lib.hid hP
     have HLM:=Lib.hid hlm
     have HFR:=Lib.hid hfr
     obtain ⟨x0,x1,x2,x3,x4,x5,x6,x7,x8,x9⟩:=rec_cells hr
     have xl:=hr.lt
     clear hd hP hlm hfr hr
     have hone : ∀ v ∈ rcl r.rc (.slice A n c),v.oneCell' = true:=fun v hv=>by
      simp only [rcl,List.mem_cons,List.not_mem_nil,or_false] at hv
      rcases hv with rfl | rfl | rfl | rfl | rfl | rfl | rfl | rfl | rfl | rfl <;> rfl
     have HONE:=Lib.hid hone
     clear hone
     go_wp2_with (refine st_row (ys:=rcl r.rc (.slice A n c)) HDn.out.res rfl rec10 HONE.out rfl _ _ rfl rfl rfl ?_;intro W' hr' hs' hg')
     have hlt:=HDn.out.res.lt
     have hT : Turn (fun b=>b = w.heap.size) wr (fun b=>b = w.heap.size) W':=⟨hg'.os,hg'.tape,hg'.output,hg'.size,fun b hb hne=>hg'.block b hb (fun e=>by cases e;exact hne rfl),fun b h=>.inl h⟩
     have hP':=pts_turn HP.out (Nat.le_refl _) hT ⟨fun ad e h=>by have:=HFR.out.1 ad e;omega,fun q hq ad e h=>by have:=HFR.out.2 q hq ad e;omega⟩
     refine bodyPost_ret (res_rec Tryz.results103 _ hr' rfl rfl) rfl ⟨A,n,c,l,rfl,hP'.more hg'.size,HLM.out,⟨fun ad e=>Nat.le_of_lt (HFR.out.1 ad e),fun q hq ad e=>Nat.le_of_lt (HFR.out.2 q hq ad e)⟩,?_⟩
     exact HDn.out.bel.grown hg' HDn.out.bel.size (fun g e=>by cases e;exact Nat.le_refl _)
end
end Go.Proofs.YtegjjhjgfkcbhaaGreatDoor
