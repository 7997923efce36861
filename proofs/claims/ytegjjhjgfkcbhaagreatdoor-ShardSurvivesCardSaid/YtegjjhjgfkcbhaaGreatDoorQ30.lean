/- WRng WTop WAwk. Conditions: as each part says. -/
import Derived.Test.YtegjjhjgfkcbhaaGreatDoorQ29
import Derived.Deep.RegionHeld3
import Derived.Test.YtegjjhjgfkcbhaaGreatDoorQ26
set_option linter.unusedVariables false
set_option linter.unusedSimpArgs false
set_option maxRecDepth 100000
set_option maxHeartbeats 16000000
namespace Go.Proofs.YtegjjhjgfkcbhaaGreatDoor
section
open Go Go.RowKit Go.Maps
def doneE (U : List Ent) (left : Lit -> Bool) : List (Int × List Int):=(U.filter fun p=>!left (kl p.1)).map bare
theorem done_end {U : List Ent} {left : Lit -> Bool} (h : ∀ kl,left kl = false) : doneE U left = U.map bare:=by
 unfold doneE
 rw [List.filter_eq_self.2 (fun p _=>by rw [h];rfl)]
theorem done_start {U : List Ent} {left : Lit -> Bool} (h : ∀ p ∈ U,left (kl p.1) = true) : doneE U left = []:=by
 unfold doneE
 rw [List.filter_eq_nil_iff.2 (fun p hp=>by rw [h p hp];simp)]
 rfl
theorem done_step : ∀ {U : List Ent} {left : Lit -> Bool} {p : Ent},Apart U -> p ∈ U -> left (kl p.1) = true -> (doneE U (fun z=>left z && !z.sameKey (kl p.1))).Perm (bare p :: doneE U left)
 | [],_,_,_,hp,_=>by simp at hp
 | q :: r,left,p,ha,hp,hl=>by
  obtain ⟨h1,h2⟩:=List.pairwise_cons.1 ha
  have hs : ∀ x,(kl x).sameKey (kl p.1) = decide (x = p.1):=fun x=>kl_same x p.1
  rcases List.mem_cons.1 hp with rfl | hp
  ·have e1 : doneE (p :: r) (fun z=>left z && !z.sameKey (kl p.1)) = bare p :: doneE r (fun z=>left z && !z.sameKey (kl p.1)):=by
    unfold doneE
    rw [List.filter_cons,if_pos (by show (!(left (kl p.1) && !(kl p.1).sameKey (kl p.1))) = true;rw [hs];simp)]
    rfl
   have e2 : doneE (p :: r) left = doneE r left:=by
    unfold doneE
    rw [List.filter_cons,if_neg (by rw [hl];simp)]
   have e3 : doneE r (fun z=>left z && !z.sameKey (kl p.1)) = doneE r left:=by
    unfold doneE
    congr 1
    refine List.filter_congr (fun x hx=>?_)
    show (!(left (kl x.1) && !(kl x.1).sameKey (kl p.1))) = !left (kl x.1)
    rw [hs,decide_eq_false (fun e=>h1 x hx e.symm)]
    simp
   rw [e1,e2,e3]
  ·have hne : q.1 ≠ p.1:=h1 p hp
   have ih:=done_step h2 hp hl
   have e0 : (!(left (kl q.1) && !(kl q.1).sameKey (kl p.1))) = !left (kl q.1):=by
    rw [hs,decide_eq_false hne]
    simp
   unfold doneE at *
   rw [List.filter_cons,List.filter_cons,e0]
   by_cases hq : (!left (kl q.1)) = true
   ·rw [if_pos hq,if_pos hq,List.map_cons,List.map_cons]
    exact (ih.cons (bare q)).trans (List.Perm.swap ..)
   ·rw [if_neg hq,if_neg hq]
    exact ih
theorem ranges_keep {w w' : World} {P : Program} {k : TypeId} {R : Value -> Option (DataW Value × List MemPlace)} {b r n : Nat} {D : Dat} {left : Lit -> Bool} {cnt : Nat} (h : w.ranges P k R b r n D left cnt) (hb : w'.heap[b]? = w.heap[b]?) (hr : w'.heap[r]? = w.heap[r]?) : w'.ranges P k R b r n D left cnt:=by
 obtain ⟨es,clock,since,seen,c0,h1,h2,h3,h4,h5,rest⟩:=h
 exact ⟨es,clock,since,seen,c0,hb.trans h1,h2,h3,h4,hr.trans h5,rest⟩
theorem ranges_iter {w : World} {P : Program} {k : TypeId} {R : Value -> Option (DataW Value × List MemPlace)} {b r n : Nat} {D : Dat} {left : Lit -> Bool} {cnt : Nat} (h : w.ranges P k R b r n D left cnt) : ∃ x y z t,w.heap[r]? = some (.mapIter x y z t):=by
 obtain ⟨es,clock,since,seen,c0,h1,h2,h3,h4,h5,rest⟩:=h
 exact ⟨_,_,_,_,h5⟩
theorem same_id : ∀ {L : List (Int × List Int)},L.Pairwise (fun p q=>p.1 ≠ q.1) -> ∀ x ∈ L,∀ y ∈ L,x.1 = y.1 -> x = y
 | [],_,x,hx,_,_,_=>by simp at hx
 | z :: r,hL,x,hx,y,hy,hxy=>by
  obtain ⟨k1,k2⟩:=List.pairwise_cons.1 hL
  rcases List.mem_cons.1 hx with ex | hx
  ·rcases List.mem_cons.1 hy with ey | hy
   ·rw [ex,ey]
   ·exact absurd (by rw [<- ex];exact hxy) (k1 y hy)
  ·rcases List.mem_cons.1 hy with ey | hy
   ·exact absurd (by rw [<- ey];exact hxy.symm) (k1 x hx)
   ·exact same_id k2 x hx y hy hxy
theorem sel_perm {N : List (Int × List Int)} {B : List Ent} (hn : N.Pairwise fun p q=>p.1 ≠ q.1) (hB : Apart B) (hs : ∀ p ∈ B,bare p ∈ N) : (selB B N).Perm (B.map bare):=by
 have n1 : (selB B N).Nodup:=(hn.filter _).imp (fun h e=>h (by rw [e]))
 have n2 : (B.map bare).Nodup:=List.pairwise_map.2 (hB.imp (fun h e=>h (by have:=congrArg Prod.fst e;exact this)))
 refine (List.perm_ext_iff_of_nodup n1 n2).2 (fun e=>?_)
 unfold selB
 rw [List.mem_filter,List.mem_map]
 constructor
 ·rintro ⟨he,hi⟩
  obtain ⟨p,hp,hx⟩:=(isId_iff _ _).1 hi
  have hb:=hs p hp
  refine ⟨p,hp,?_⟩
  by_cases hee : bare p = e
  ·exact hee
  ·exfalso
   exact hee (same_id hn _ hb _ he hx)
 ·rintro ⟨p,hp,rfl⟩
  exact ⟨hs p hp,(isId_iff _ _).2 ⟨p,hp,rfl⟩⟩
def topH (T : List (Int × List Int)) (vec : List Int) (k : Nat) (lim : Int) : List Hit:=bst k (nearH vec lim T)
theorem top_all {k : Nat} {lim : Int} {vec : List Int} {T : List (Int × List Int)} {N : NT} {B U : List Ent} (hn : N.ents.Pairwise fun p q=>p.1 ≠ q.1) (hB : Apart B) (hs : ∀ p ∈ B,bare p ∈ N.ents) (hT : T.Perm ((B ++ U).map bare)) :
  bst k (nearH vec lim (selB B N.ents) ++ nearH vec lim (U.map bare)) = topH T vec k lim:=by
 refine bst_perm ?_
 rw [<- nearH_append]
 refine nearH_perm ?_
 rw [List.map_append] at hT
 exact ((sel_perm hn hB hs).append_right _).trans hT.symm
end
section
open Go Go.RowKit Go.Maps
section
variable {w w' : World} {F : Nat -> Prop} {t bm fm dim bt bb base k : Nat} {rv : Value} {N : NT} {B U : List Ent} {lim : Int} {v : Value} {S : List Hit}
theorem nown {w : World} {base r : Nat} {v : Value} {n : Nat} {xs : List Value} (h : w.ownsRow base 91 2 v n xs) (hr : ∃ x y z t,w.heap[r]? = some (.mapIter x y z t)) : v.ownBlock ≠ some r:=by
 intro e
 obtain ⟨x,y,z,t,hr⟩:=hr
 rcases h.2 with ⟨rfl,_⟩ | ⟨g,c1,cur,rfl,_,h3,_⟩
 ·cases e
 ·injection e with e
  have e : g = r:=e
  subst e
  rw [h3] at hr
  cases hr
theorem SkW.iter {r : Nat} (h : SkW w F t bm fm dim rv N B U bt bb base k lim v S) (hg : w.grownBy w' (some r)) (hr : bb < r) (hit : ∃ x y z t,w.heap[r]? = some (.mapIter x y z t)) : SkW w' F t bm fm dim rv N B U bt bb base k lim v S:=by
 have hk : ∀ b,b ≠ r -> b < w.heap.size -> w'.heap[b]? = w.heap[b]?:=fun b hb hlt=>hg.block b hlt (by simpa using hb)
 refine ⟨h.tree.keep (fun b hb=>hk b (by have:=h.below b hb;omega) (h.tree.lt b hb)) hg.size,h.box.keep (hk bt (by have:=h.bt;omega) h.box.lt),h.near.keep (fun b hb=>?_) hg.size,h.below,h.bt,h.k1,h.k2,h.lim⟩
 rcases hb with rfl | hb
 ·exact hk _ (by omega) h.near.lt
 ·exact hk _ (fun e=>nown h.near.own hit (by rw [hb,e])) (h.near.own.lt b hb).2
theorem keyInv (key : Value) (kl' : Lit) (h : keyOf Tryz.prog 3 key = some kl') : ∃ x,key = Value.int .i64 x:=by
 obtain ⟨x,e,_,_⟩:=Maps.keyOf_int_inv Tryz.underlying3 h
 exact ⟨x,e⟩
theorem valInv (u : Value) (y : Dat × List MemPlace) (h : hR u = some y) : ∃ c : Value,u = id c:=⟨u,rfl⟩
def TopPost (T : List (Int × List Int)) (vec : List Int) (k : Nat) (lim : Int) (w : World) (e : Ending) (w' : World) : Prop :=
 ∃ A m,e = .returned (.tuple #[.slice A m m,.int .i64 0]) /\ Reads w' w'.heap.size 2 A m (hits (topH T vec k lim)) /\ m <= 64 /\ Below w.heap.size w w'
def TopPost2 (T : List (Int × List Int)) (vec : List Int) (k : Nat) (lim : Int) (w : World) (e : Ending) (w' : World) : Prop :=
 ∃ A m,e = .returned (.tuple #[.slice A m m,.int .i64 0]) /\ Reads w' w'.heap.size 2 A m (hits (topH T vec k lim)) /\ m <= 64 /\ Below w.heap.size w w' /\ ∀ ad,A = some ad -> 0 < m -> w.heap.size <= ad.block
theorem top_bad (h : TreeW w F t bm fm dim rv N B U) {A : Option Addr} {n c C : Nat} {vec : List Int} (hR : Reads w C 1 A n (ints vec)) (hC : C <= w.heap.size) (hn : n <= maxLen) (kz lim : Int) (hk : ck vec dim = 50) :
  Calls Tryz.prog 63 #[.pointer (some ⟨t,0,none⟩),.slice A n c,.int .i64 kz,.int .i64 lim] w fun e w'=>e = .returned (.tuple #[.slice none 0 0,.int .i64 50]) /\ Below w.heap.size w w':=by
 have hr:=Row.new w 94 [.pointer (some ⟨t,0,none⟩)]
 have hb0 : Below w.heap.size w (w.alloc (.cells #[.pointer (some ⟨t,0,none⟩)] 94)):=(Below.refl _ w).alloc (Nat.le_refl _) _
 have h0:=h.below hb0
 have hR0:=hR.alloc hC (.cells #[.pointer (some ⟨t,0,none⟩)] 94)
 have hr : Row (w.alloc (.cells #[.pointer (some ⟨t,0,none⟩)] 94)) w.heap.size 94 [.pointer (some ⟨t,0,none⟩)]:=hr
 generalize hW : w.alloc (.cells #[.pointer (some ⟨t,0,none⟩)] 94) = W at *
 have HW:=Lib.hid hW
 clear hW
 have hg:=vgiven_any h0
 have z0:=hr.cell (j:=0) rfl
 have zl:=hr.lt
 go_enter Tryz.func63,Tryz.ntmps63
 go_wp2_with fail
 rw [HW.out]
 refine hg.mono ?_
 rintro e w1 ⟨rfl,q,rfl⟩
 obtain ⟨w1,hw1⟩ : ∃ w1,w1 = W.drewN q:=⟨_,rfl⟩
 rw [<- hw1]
 have hc:=check_any A n c C vec dim w1 (by rw [hw1];exact hR0.drewN q) hn
 rw [hk] at hc
 have hr1 : Row w1 w.heap.size 94 [.pointer (some ⟨t,0,none⟩)]:=by rw [hw1];exact hr
 have h1 : TreeW w1 F t bm fm dim rv N B U:=by rw [hw1];exact h0.drewN q
 have z0:=hr1.cell (j:=0) rfl
 have zl:=hr1.lt
 have c1:=h1.c1
 have hl:=h1.tlt
 have HF:=Lib.hid (show Below w.heap.size w w1 by rw [hw1];exact below_drewN hb0 q)
 clear h hR hR0 hr h0 hg hw1 hr1 h1 hb0
 go_wp2_with fail
 refine hc.mono ?_
 rintro e w2 ⟨rfl,q2,rfl⟩
 go_wp2_with fail
 go_ret2
 exact ⟨rfl,below_drewN HF.out q2⟩
theorem top_any2 (h : TreeW w F t bm fm dim rv N B U) {A : Option Addr} {n c : Nat} {vec : List Int} (hR : Reads w w.heap.size 1 A n (ints vec)) (hn : n <= maxLen) (lim : Int) (hk : ck vec dim = 0) (hk1 : 1 <= k) (hk2 : k <= 64) {T : List (Int × List Int)} (hT : T.Perm ((B ++ U).map bare)) :
  Calls Tryz.prog 63 #[.pointer (some ⟨t,0,none⟩),.slice A n c,.int .i64 (k : Int),.int .i64 lim] w (TopPost2 T vec k lim w):=by
 have hb0 : Below w.heap.size w (w.alloc (.cells #[.pointer (some ⟨t,0,none⟩)] 94)):=(Below.refl _ w).alloc (Nat.le_refl _) _
 have h0:=h.below hb0
 have hR0:=hR.alloc (Nat.le_refl _) (.cells #[.pointer (some ⟨t,0,none⟩)] 94)
 have hr : Row (w.alloc (.cells #[.pointer (some ⟨t,0,none⟩)] 94)) w.heap.size 94 [.pointer (some ⟨t,0,none⟩)]:=Row.new w 94 [.pointer (some ⟨t,0,none⟩)]
 have hflt : ∀ b,F b -> b < w.heap.size:=h.lt
 have HR0:=Lib.hid hR
 have HCK:=Lib.hid (ck_len hk)
 have HRT:=Lib.hid (And.intro hT (And.intro h.nnd (And.intro h.mb.apart (And.intro h.sub (And.intro h.node h.good)))))
 generalize hW : w.alloc (.cells #[.pointer (some ⟨t,0,none⟩)] 94) = W at *
 generalize hsz : w.heap.size = s at *
 have HW:=Lib.hid hW
 have HSZ:=Lib.hid hsz
 clear hW hsz
 have hg:=vgiven_any h0
 have z0:=hr.cell (j:=0) rfl
 have zl:=hr.lt
 have hz1 : ¬ (k : Int) < 1:=by omega
 have hz2 : ¬ (64 : Int) < (k : Int):=by omega
 go_enter Tryz.func63,Tryz.ntmps63
 go_wp2_with fail
 rw [HW.out,HSZ.out]
 refine hg.mono ?_
 rintro e w1 ⟨rfl,q,rfl⟩
 obtain ⟨w1,hw1⟩ : ∃ w1,w1 = W.drewN q:=⟨_,rfl⟩
 rw [<- hw1]
 have hc:=check_any A n c s vec dim w1 (by rw [hw1];exact hR0.drewN q) hn
 rw [hk] at hc
 have hr1 : Row w1 s 94 [.pointer (some ⟨t,0,none⟩)]:=by rw [hw1];exact hr
 have h1 : TreeW w1 F t bm fm dim rv N B U:=by rw [hw1];exact h0.drewN q
 have hR1 : Reads w1 s 1 A n (ints vec):=by rw [hw1];exact hR0.drewN q
 have B1 : Below s w w1:=by rw [hw1];exact below_drewN hb0 q
 have z0:=hr1.cell (j:=0) rfl
 have zl:=hr1.lt
 have c1:=h1.c1
 have hl:=h1.tlt
 have H1:=Lib.hid (And.intro h1 (And.intro hr1 (And.intro hR1 B1)))
 have HFL:=Lib.hid hflt
 have HKK:=Lib.hid (And.intro hk1 hk2)
 clear h hR hR0 hr h0 hg hw1 hr1 h1 hb0 hR1 B1 hflt
 go_wp2_with fail
 refine hc.mono ?_
 rintro e w2 ⟨rfl,q2,rfl⟩
 obtain ⟨w2,hw2⟩ : ∃ w2,w2 = w1.drewN q2:=⟨_,rfl⟩
 rw [<- hw2]
 have h2 : TreeW w2 F t bm fm dim rv N B U:=by rw [hw2];exact H1.out.1.drewN q2
 have hr2 : Row w2 s 94 [.pointer (some ⟨t,0,none⟩)]:=by rw [hw2];exact H1.out.2.1
 have hR2 : Reads w2 s 1 A n (ints vec):=by rw [hw2];exact H1.out.2.2.1.drewN q2
 have B2 : Below s w w2:=by rw [hw2];exact below_drewN H1.out.2.2.2 q2
 have rb:=Row.new w2 173 [.int .i64 0,.int .i64 0,.slice none 0 0]
 have r0:=rb.cell (j:=0) rfl
 have r1:=rb.cell (j:=1) rfl
 have r2:=rb.cell (j:=2) rfl
 have f0:=rb.frozen 0
 have f1:=rb.frozen 1
 have f2:=rb.frozen 2
 have rl:=rb.lt
 have H2:=Lib.hid (And.intro h2 (And.intro hr2 (And.intro hR2 (And.intro B2 rb))))
 have hB3 : Below w2.heap.size w2 (w2.alloc (.cells #[.int .i64 (k : Int),.int .i64 lim,.slice none 0 0] 173)):=(Below.refl _ w2).alloc (Nat.le_refl _) _
 have z0:=(hr2.keep (heap_alloc_lt w2 (.cells #[.int .i64 (k : Int),.int .i64 lim,.slice none 0 0] 173) hr2.lt)).cell (j:=0) rfl
 have h3:=h2.below hB3
 have zl : s < (w2.alloc (.cells #[.int .i64 (k : Int),.int .i64 lim,.slice none 0 0] 173)).heap.size:=by have:=hr2.lt;simp;omega
 have c4:=h3.c4
 have tl:=h3.tlt
 have S3 : SkW (w2.alloc (.cells #[.int .i64 (k : Int),.int .i64 lim,.slice none 0 0] 173)) F t bm fm dim rv N B U s w2.heap.size (w2.heap.size + 1) k lim (.slice none 0 0) [] :=
  ⟨h3,hr2.keep (hB3.block s hr2.lt),⟨Row.new w2 173 [.int .i64 (k : Int),.int .i64 lim,.slice none 0 0],by rw [bst_nil];exact World.ownsRow_nil ..,by omega,by simp⟩,fun b hb=>h2.lt b hb,hr2.lt,HKK.out.1,HKK.out.2,fun x hx=>by simp at hx⟩
 obtain ⟨D,hDo,hD⟩:=h3.mf
 have HDM:=Lib.hid hD
 have HS3:=Lib.hid (And.intro S3 hB3)
 clear hw2 h2 hr2 hR2 B2 rb hc c1 hl hB3 h3 hD S3
 obtain ⟨W3,hW3⟩ : ∃ W3,W3 = w2.alloc (.cells #[.int .i64 (k : Int),.int .i64 lim,.slice none 0 0] 173):=⟨_,rfl⟩
 have HW3:=Lib.hid hW3
 clear hW3
 go_wp2_with (first | (at_range;refine wpList_range_own _ rfl _ 169 rfl 3 27 law3 Tryz.underlying169 hR fm U.length D rfl hDo ?_;intro w4 hrg4 hg4 hs4) | go_in)
 go_frame
 have e1 : (w2.alloc (.cells #[.int .i64 (k : Int),.int .i64 lim,.slice none 0 0] 173)).heap.size = w2.heap.size + 1:=by simp
 have S4 : SkW w4 F t bm fm dim rv N B U s w2.heap.size (w2.heap.size + 1) k lim (.slice none 0 0) []:=HS3.out.1.under ⟨hg4.os,hg4.tape,hg4.output,hg4.size,fun b hb=>hg4.block b hb (by simp)⟩
 have B4 : Below s w w4:=H2.out.2.2.2.1.trans ((HS3.out.2.trans ⟨hg4.os,hg4.tape,hg4.output,by have:=hg4.size;omega,fun b hb=>hg4.block b (by rw [e1];omega) (by simp)⟩).mono (by have:=H2.out.2.2.2.1.size;have:=HSZ.out;have:=H2.out.2.1.lt;omega))
 rw [e1] at hrg4 hs4
 rw [e1]
 have hd0 : doneE U (Maps.has D) = []:=done_start (fun p hp=>by rw [HDM.out.has];exact (isId_iff _ _).2 ⟨p,hp,rfl⟩)
 have HST:=Lib.hid (show SkW w4 F t bm fm dim rv N B U s w2.heap.size (w2.heap.size + 1) k lim (.slice none 0 0) (nearH vec lim (doneE U (Maps.has D))) from by rw [hd0,nearH_nil];exact S4)
 have HB4:=Lib.hid B4
 have HA:=Lib.hid H2.out.2.2.1
 clear S4 B4 e1 hd0 hs4 hg4 hDo z0 c4 zl tl r0 r1 r2 f0 f1 f2 rl
 generalize w2.heap.size = bb at *
 go_loopw [12] (fun _ wr=>∃ (left : Lit -> Bool) (cnt : Nat) (v : Value),wr.ranges Tryz.prog 3 hR fm (bb + 1) U.length D left cnt /\ Hid (SkW wr F t bm fm dim rv N B U s bb (bb + 1) k lim v (nearH vec lim (doneE U left))) /\ Hid (Below s w wr) /\ Hid (∀ z,left z = true -> Maps.has D z = true)) (fun _ wr=>wr.rangeLeft fm (bb + 1))
 case atStart=>exact ⟨_,_,_,hrg4,HST,HB4,Lib.hid (fun _ h=>h)⟩
 case round =>
  obtain ⟨left,cnt,v,hrg,HSK,HB,HL⟩:=hrel
  clear hrg4 HST HB4
  go_wp2_with (at_next;refine wpList_next_ranges _ rfl _ rfl 3 law3 hR (Value.int .i64) id keyInv valInv fm (bb + 1) U.length D left cnt rfl hrg ?_ ?_)
  ·intro _ hl0
   have S0:=HSK.out
   rw [done_end hl0] at S0
   have hRb : Reads wr bb 1 A n (ints vec):=(HR0.out.below HB.out).more (Nat.le_of_lt S0.bt)
   have hre:=vreach_any (S0.near.drewN 1) S0.k1 S0.k2 (bst_len k _)
   have hsk:=fun q=>seek_any (c:=c) (A:=A) (n:=n) HCK.out.1 HCK.out.2 N (wr.drewN q) rv v _ (S0.under (below_drewN (Below.refl _ wr) q)) (S0.under (below_drewN (Below.refl _ wr) q)).tree.node S0.tree.good (hRb.drewN q)
   have z0:=S0.box.cell (j:=0) rfl
   have zl:=S0.box.lt
   have c2:=S0.tree.c2
   have tl:=S0.tree.tlt
   have HS0:=Lib.hid (And.intro S0 HB.out)
   clear hrg hl0 HSK HB HL S0 hRb HA HDM
   unfold vclo at hsk
   generalize hR9 : reachOf k lim (bst k (nearH vec lim (List.map bare U))) = R9 at *
   have HR9:=Lib.hid hR9
   clear hR9
   go_wp2_with fail
   go_region_held3 (fun w'=>w'.cell? ⟨s,0,none⟩ = some (.pointer (some ⟨t,0,none⟩)) /\ w'.cell? ⟨t,2,none⟩ = some rv)
    (first | with_reducible exact ⟨y0,y2⟩ | exact ⟨z0,c2⟩)
    (first
     | (go_at_call 108;refine hre.mono ?_;rintro e w9 ⟨rfl,q9,rfl⟩)
     | (go_at_call 107;refine (hsk (1 + q9)).mono ?_;rintro e w10 ⟨rfl,v10,S10,T10⟩;have y0:=S10.box.cell (j:=0) rfl;have y2:=S10.tree.c2;have HS10:=Lib.hid (And.intro S10 T10);clear S10 T10))
   all_goals
    have S10:=HS10.out.1
    obtain ⟨A10,c10,hv10,hnc,hcm⟩:=own_shape S10.near.own
    subst hv10
    have htop:=top_all (k:=k) (lim:=lim) (vec:=vec) HRT.out.2.1 HRT.out.2.2.1 HRT.out.2.2.2.1 HRT.out.1
    have S11:=S10.same (S':=nearH vec lim T) (by rw [htop];rfl) (fun z hz=>nearH_lim z hz)
    have hle : (bst k (nearH vec lim T)).length <= 64:=Nat.le_trans (bst_len k _) HKK.out.2
    have hmm : (bst k (nearH vec lim (selB B N.ents) ++ nearH vec lim (List.map bare U))).length = (bst k (nearH vec lim T)).length:=by rw [htop];rfl
    rw [hmm] at hnc
    rw [hmm] at S11 HS10
    have d2:=S11.near.d2
    have dl:=S11.near.lt
    have own11:=S11.near.own
    have hR11:=Reads.of_own own11
    have hfr:=(HS0.out.1.under (below_drewN (Below.refl _ wr) (1 + q9))).far HS10.out.2
    have HBB : Below s w w10:=(below_drewN HS0.out.2 (1 + q9)).trans ⟨HS10.out.2.os,HS10.out.2.tape,HS10.out.2.output,HS10.out.2.size,fun b hb=>hfr b (by have:=HS0.out.1.bt;omega) (by have:=HS0.out.1.near.lt;have:=HS0.out.1.bt;show b < wr.heap.size;omega)⟩
    have hclip:=fun q=>clip_any A10 (bst k (nearH vec lim T)).length c10 (w10.drewN q) hnc hcm
    have hfresh : ∀ ad,A10 = some ad -> 0 < (bst k (nearH vec lim T)).length -> w.heap.size <= ad.block:=fun ad e h0=>by
     obtain ⟨g,cap,hv,hbg,_⟩:=own11.form h0
     have hv1 : A10 = some ⟨g,0,none⟩:=by injection hv
     rw [e] at hv1
     injection hv1 with hv1
     rw [hv1]
     have:=HS0.out.1.bt
     have:=HSZ.out
     show w.heap.size <= g
     omega
    have HF:=Lib.hid (show ∀ q q',TopPost2 T vec k lim w (.returned (.tuple #[.slice A10 (bst k (nearH vec lim T)).length (bst k (nearH vec lim T)).length,.int .i64 0])) ((w10.drewN q).drewN q') from fun q q'=>⟨A10,_,rfl,hR11.drewN (q + q'),hle,by rw [HSZ.out];exact below_drewN (below_drewN HBB q) q',hfresh⟩)
    clear hfresh
    clear S10 S11 htop hle hmm hnc own11 hR11 hfr HBB y0 y2 HS10
    generalize (bst k (nearH vec lim T)).length = m11 at *
    go_wp2_with fail
    refine (hclip 0).mono ?_
    rintro e w11 ⟨rfl,q11,rfl⟩
    go_wp2_with fail
    go_ret2
    exact HF.out 0 q11
  ·intro x c0 kl0 d0 p0 w5 cnt5 hk0 hlk hcv hat hrg5 hlt5 hg5 hs5 hen
   obtain ⟨x',ex,rfl,hwx⟩:=Maps.keyOf_int_inv Tryz.underlying3 hk0
   injection ex with _ ex
   subst ex
   have hid : isId x U = true:=by
    have:=HL.out _ hlk
    rw [show (Lit.int IntKind.i64 x) = kl x from rfl,HDM.out.has] at this
    exact this
   obtain ⟨⟨y,u,l⟩,hp,hpx⟩:=(isId_iff _ _).1 hid
   have hpx : y = x:=hpx
   subst hpx
   have hcu : u = c0:=by
    have h1:=HDM.out.at_ _ hp (.held (.slice none 0 0))
    have h2:=hat (.held (.slice none 0 0))
    have h3:=h1.symm.trans h2
    have h4:=hR_inj hcv
    exact DataW.held.inj (h3.trans h4)
   subst hcu
   have hok:=HSK.out.tree.ok _ (List.mem_append_right B hp)
   have hit:=ranges_iter hrg
   have S5:=HSK.out.iter hg5 (by omega) hit
   obtain ⟨Au,cu,hu,hRu⟩:=(S5.tree.vec _ (List.mem_append_right B hp)).reads
   change u = .slice Au l.length cu at hu
   subst hu
   have hBs : s <= wr.heap.size:=by have:=HB.out.size;have:=HSZ.out;omega
   have hll : l.length = dim:=hok.2.2
   have hsb : s < bb:=HSK.out.bt
   have B5 : Below s w w5:=HB.out.trans ⟨hg5.os,hg5.tape,hg5.output,by have:=hg5.size;omega,fun b hb=>hg5.block b (by omega) (by simp;omega)⟩
   have hfar:=vfar_any Au A l.length n cu c w5.heap.size s l vec w5 hRu (HR0.out.below B5) hok.2.1 HCK.out.1 (by have:=HCK.out.2;omega)
   have hit5:=ranges_iter hrg5
   have htk:=fun q=>vtake_any (S5.near.drewN q) S5.k1 S5.k2 S5.lim (y,far l vec)
   unfold hitV at htk
   have H5:=Lib.hid (And.intro S5 (And.intro B5 (And.intro hrg5 hit5)))
   have HP:=Lib.hid (And.intro hp hlk)
   have HM:=Lib.hid (And.intro hlt5 (And.intro hrg.left_eq hrg5.left_eq))
   have HN2:=Lib.hid (show nearH vec lim (bare (y,(Value.slice Au l.length cu),l) :: doneE U left) = (if far l vec <= lim then [(y,far l vec)] else []) ++ nearH vec lim (doneE U left) from nearH_cons vec lim _ _)
   clear hll hid hok hit S5 hRu hcv hat hrg5 hit5 B5 hg5 hs5 hlt5 hlk hp hrg hk0 hwx HSK
   generalize far l vec = D5 at *
   go_wp2_with fail
   refine hfar.mono ?_
   rintro e w6 ⟨rfl,q6,rfl⟩
   go_wp2_with fail
   refine (htk q6).mono ?_
   rintro e w7 ⟨rfl,v7,n7,T7⟩
   have S6:=H5.out.1.under (below_drewN (Below.refl _ w5) q6)
   have S7:=S6.step n7 T7 (fun z hz=>by rw [<- HN2.out] at hz;exact nearH_lim z hz)
   have hds:=done_step (left:=left) H5.out.1.tree.mf.apart HP.out.1 HP.out.2
   have hpm:=nearH_perm (v:=vec) (lim:=lim) hds
   have S8:=S7.same (S':=nearH vec lim (doneE U (fun z=>left z && !z.sameKey (kl y)))) (by rw [<- HN2.out];exact bst_perm hpm.symm) (fun z hz=>nearH_lim z hz)
   have hfr:=S6.far T7
   have hn6 : Value.ownBlock _ ≠ some (bb + 1):=nown S6.near.own H5.out.2.2.2
   have hrg7:=ranges_keep (w':=w7) H5.out.2.2.1 (hfr fm (S6.below fm S6.tree.ff) (S6.tree.lt fm S6.tree.ff)) (T7.block (bb + 1) (by
    obtain ⟨a1,a2,a3,a4,h5⟩:=H5.out.2.2.2
    exact (Array.getElem?_eq_some_iff.1 h5).1) (fun ho=>by
    rcases ho with ho | ho
    ·omega
    ·exact hn6 ho))
   have B7 : Below s w w7:=(below_drewN H5.out.2.1 q6).trans ⟨T7.os,T7.tape,T7.output,T7.size,fun b hb=>hfr b (by have:=S6.bt;omega) (by have:=S6.near.lt;have:=S6.bt;omega)⟩
   have HL7 : ∀ z,(left z && !z.sameKey (kl y)) = true -> Maps.has D z = true:=fun z hz=>HL.out z (by
    cases hc : left z
    ·rw [hc] at hz
     cases hz
    ·rfl)
   have HM7:=Lib.hid hrg7.left_eq
   have HF7:=Lib.hid (And.intro hrg7 (And.intro S8 (And.intro B7 HL7)))
   clear S6 S7 hds hpm S8 hfr hn6 hrg7 B7 HL7 n7 T7 htk hfar
   go_wp2_with fail
   go_roundw
   case rel=>exact ⟨_,_,v7,HF7.out.1,Lib.hid HF7.out.2.1,Lib.hid HF7.out.2.2.1,Lib.hid HF7.out.2.2.2⟩
   case measure =>
    rw [HM7.out,HM.out.2.1]
    exact HM.out.1
theorem top_any (h : TreeW w F t bm fm dim rv N B U) {A : Option Addr} {n c : Nat} {vec : List Int} (hR : Reads w w.heap.size 1 A n (ints vec)) (hn : n <= maxLen) (lim : Int) (hk : ck vec dim = 0) (hk1 : 1 <= k) (hk2 : k <= 64) {T : List (Int × List Int)} (hT : T.Perm ((B ++ U).map bare)) :
  Calls Tryz.prog 63 #[.pointer (some ⟨t,0,none⟩),.slice A n c,.int .i64 (k : Int),.int .i64 lim] w (TopPost T vec k lim w) :=
 (top_any2 h hR hn lim hk hk1 hk2 hT).mono fun e w' ⟨A',m,h1,h2,h3,h4,_⟩=>⟨A',m,h1,h2,h3,h4⟩
end
end
section
open Go Go.RowKit Go.Maps
section
variable {w w' : World} {F : Nat -> Prop} {t dim : Nat} {T : List Pnt}
theorem t_top (h : Tree w F t dim T) {A : Option Addr} {n c C k : Nat} {vec : List Int} (hR : Reads w C 1 A n (ints vec)) (hC : C <= w.heap.size) (hn : n <= maxLen) (lim : Int) (hk : ck vec dim = 0) (hk1 : 1 <= k) (hk2 : k <= 64) :
  Calls Tryz.prog 63 #[.pointer (some ⟨t,0,none⟩),.slice A n c,.int .i64 (k : Int),.int .i64 lim] w (TopPost T vec k lim w):=by
 obtain ⟨⟨bm,fm,rv,N,B,U,hm,hp⟩,hr⟩:=h
 exact top_any hm (hR.more hC) hn lim hk hk1 hk2 hp
end
section
variable {b0 : Nat} {w0 w w' : World} {F F' : Nat -> Prop} {t dim : Nat} {T T' : List Pnt}
end
end
end Go.Proofs.YtegjjhjgfkcbhaaGreatDoor
