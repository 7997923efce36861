/- SBegun SWr SWc SAwk. Conditions: as each part says. -/
import Derived.Test.YtegjjhjgfkcbhaaGreatDoorQ43
import Derived.Test.YtegjjhjgfkcbhaaGreatDoorQ26
set_option linter.unusedVariables false
set_option linter.unusedSimpArgs false
set_option maxRecDepth 100000
set_option maxHeartbeats 16000000
namespace Go.Proofs.YtegjjhjgfkcbhaaGreatDoor
section
open Go Go.RowKit
def qNew (dim : Int) : List Value:=[.int .i64 dim,.int .i64 0,.int .i64 0,.int .i64 0,.int .i64 0,.int .i64 dim,.slice none 0 0,
 .int .i64 0,.int .i64 0,.bool false,.int .i64 0,.int .i64 0,.bool false,.int .i64 0,.int .i64 0,.bool false,.int .i64 0,.int .i64 0,.bool false,
 .int .i64 0,.int .i64 0,.bool false,.int .i64 0,.int .i64 0,.bool false,.int .i64 0,.int .i64 0,.bool false,.int .i64 0,.int .i64 0,.bool false]
section
variable {ops : Array Oper} {rest : List Oper} {o : Oper} {a : Act} {Q : Exit -> Act -> World -> Prop} {W : World}
theorem st_row {b : Nat} {ty : TypeId} {xs ys : List Value} (hR : Row W b ty xs) (hl : ys.length = xs.length) (hi : (Tryz.prog.info? ty).map (·.size) = some ys.length) (h1 : ∀ v ∈ ys,v.oneCell' = true) (hgd : o.guard = none) (x y : Operand) (ho : o.op = .store ty x y) (hx : a.eval x = .pointer (some ⟨b,0,none⟩)) (hy : a.eval y = .agg ys.toArray)
  (h : ∀ W',Row W' b ty ys -> W'.heap.size = W.heap.size -> W.grownBy W' (some b) -> wpList Tryz.prog ops Q rest (a.put o.dst undef) W') : wpList Tryz.prog ops Q (o :: rest) a W:=by
 refine wpList_plain hgd fun K hK=>?_
 have hst:=run_storeVar_row (P:=Tryz.prog) W b ty ty xs.toArray ys.toArray hR (by simpa using hi) (by simp [hl]) (all_oneCell_toArray h1)
 obtain ⟨f1,f2,f3⟩:=Be.setRow_facts hR ys
 unfold Oper.wp execOp
 simp only [ho,hx,hy,Instr.storeAt,Instr.sureAddr,Sem.run_bind,Sem.run_pure,Result.andThen_ok,hst]
 exact hK _ _ (h _ f1 f2 f3)
end
theorem qNew_one (d : Int) : ∀ v ∈ qNew d,v.oneCell' = true:=fun v hv=>List.all_eq_true.1 (show ((qNew d).all fun u=>u.oneCell') = true from rfl) v hv
theorem q10_size : (Tryz.prog.info? 46).map (·.size) = some 31:=by kernel_rfl
theorem res_q10 {fn : Func} {p : Tmp} (hf : fn.results = #[.cell p 46]) (tmps : Array Value) {w : World} {b : Nat} {xs : List Value} (h : Row w b 46 xs) (hl : xs.length = 31) (hp : tmps.getD p undef = .pointer (some ⟨b,0,none⟩)) :
  (results fn tmps).run Tryz.prog w = .ok (.agg xs.toArray) w:=by
 have:=run_loadVar_mid w b 0 46 xs _ (fun j v hv=>by rw [Nat.zero_add];exact h.cell hv) Tryz.underlying46 rfl (by rw [hl];exact q10_size)
 simp only [results,hf]
 have hp' : tmps[p]?.getD undef = .pointer (some ⟨b,0,none⟩):=by simpa using hp
 simp [Sem.run_bind,Result.andThen,hp',asAddr,this]
theorem qnew_any (w : World) : Calls Tryz.prog 33 #[.int .i64 2] w fun e w'=>e = .returned (.agg (qNew 2).toArray) /\ Below w.heap.size w w':=by
 have hr:=Row.new w 46 (qNew 0)
 have hb0 : Below w.heap.size w (w.alloc (.cells (qNew 0).toArray 46)):=(Below.refl _ _).alloc (Nat.le_refl _) _
 have HR:=Lib.hid hr
 have HB:=Lib.hid hb0
 clear hr hb0
 go_enter Tryz.func33,Tryz.ntmps33
 go_wp2_with (refine st_row (ys:=qNew 2) HR.out rfl q10_size (qNew_one 2) rfl _ _ rfl rfl rfl ?_;intro W' hr' hs' hg')
 refine bodyPost_ret (res_q10 Tryz.results33 _ hr' rfl rfl) rfl ⟨rfl,HB.out.grown hg' HB.out.size (fun k e=>by cases e;exact Nat.le_refl _)⟩
theorem xins_any (x a b : Int) (w : World) : Calls Tryz.prog 25 #[.int .i64 x,.int .i64 a,.int .i64 b] w fun e w'=>∃ A,e = .returned (.agg #[.int .i64 1,.int .i64 x,.slice (some A) 2 2,.int .i64 0]) /\ Reads w' w'.heap.size 1 (some A) 2 (ints [a,b]) /\ w.heap.size <= A.block /\ Below w.heap.size w w':=by
 go_enter Tryz.func25,Tryz.ntmps25
 go_wp2_with fail
 obtain ⟨V,hV⟩ : ∃ V,(w.alloc (.cells #[.int .i64 1,.int .i64 x,.slice (some ⟨w.heap.size + 1,0,none⟩) 2 2,.int .i64 0] 29)).alloc (.cells #[.int .i64 a,.int .i64 b] 3) = V:=⟨_,rfl⟩
 have hr : Row V w.heap.size 29 [.int .i64 1,.int .i64 x,.slice (some ⟨w.heap.size + 1,0,none⟩) 2 2,.int .i64 0]:=by
  rw [<- hV]
  exact (Row.new w 29 [.int .i64 1,.int .i64 x,.slice (some ⟨w.heap.size + 1,0,none⟩) 2 2,.int .i64 0]).keep (heap_alloc_lt _ _ (by simp))
 have hbV : Below w.heap.size w V:=by rw [<- hV];exact ((Below.refl _ _).alloc (Nat.le_refl _) _).alloc (by simp) _
 have hrd : Reads V V.heap.size 1 (some ⟨w.heap.size + 1,0,none⟩) 2 (ints [a,b]):=by
  have hr2 : Row V (w.heap.size + 1) 3 (ints [a,b]):=by
   rw [<- hV]
   have:=Row.new (w.alloc (.cells #[.int .i64 1,.int .i64 x,.slice (some ⟨w.heap.size + 1,0,none⟩) 2 2,.int .i64 0] 29)) 3 (ints [a,b])
   rw [World.size_alloc] at this
   exact this
  refine ⟨rfl,fun _=>⟨_,rfl,hr2.lt,fun j u hj=>?_⟩⟩
  rw [add_flat,Nat.zero_add]
  exact hr2.cell hj
 have k0:=hr.cell (j:=0) (u:=.int .i64 1) rfl
 have k1:=hr.cell (j:=1) (u:=.int .i64 x) rfl
 have k2:=hr.cell (j:=2) (u:=.slice (some ⟨w.heap.size + 1,0,none⟩) 2 2) rfl
 have k3:=hr.cell (j:=3) (u:=.int .i64 0) rfl
 rw [hV]
 exact bodyPost_ret (v:=.agg #[.int .i64 1,.int .i64 x,.slice (some ⟨w.heap.size + 1,0,none⟩) 2 2,.int .i64 0]) (by simp [results,Tryz.results25,go_sem,k0,k1,k2,k3]) rfl ⟨⟨w.heap.size + 1,0,none⟩,rfl,hrd,by simp,hbV⟩
structure Side (w : World) (B : Nat) (Z : Nat -> Prop) (x s d tn : Nat) (R : List RK) (k : KS) (qs : List Value) : Prop where
 sh : ShW w B Z s d 4000 tn R k
 row : Row w x 48 (.pointer (some ⟨d,0,none⟩) :: .pointer (some ⟨s,0,none⟩) :: qs)
 nx : ¬ Z x
 xB : B <= x
def BegunPost (B : Nat) (w : World) (e : Ending) (w' : World) : Prop:=∃ x s d Z,e = .returned (.tuple #[.pointer (some ⟨x,0,none⟩),.bool true]) /\ Side w' B Z x s d 0 [] (ks0 2) (qNew 2) /\ Below B w w'
theorem begun_any {B : Nat} (w : World) (hT : Tab w B) (hP : Tabs w B) : Calls Tryz.prog 9 #[] w (BegunPost B w):=by
 have HN:=Lib.hid (a_new 4000 (by omega) (by omega) w)
 have HT:=Lib.hid hT
 have HPx:=Lib.hid hP
 clear hT hP
 go_enter Tryz.func9,Tryz.ntmps9
 go_wp2_with fail
 refine HN.out.mono ?_
 rintro e w1 ⟨d,F,rfl,hD,hF,hb⟩
 have hbB : Below B w w1:=hb.mono HT.out.le
 have hdt : DskT w1 B F d 4000 0 (([] : List RK).map RK.bytes) ([] : List RK).length (none_ 4000):=⟨hD,⟨0,diskD_new 4000 (by omega) (by omega),Nat.zero_le _⟩,fun b hb=>Nat.le_trans HT.out.le (hF b hb),HT.out.on hbB⟩
 have hso:=sopen_any (dim:=2) hdt (by omega) (HPx.out.on hbB) (by omega) (by omega) (R:=[]) trivial (fun r hr=>by cases hr) (fun r hr=>by cases hr) (ks0_good 2 (by omega) (by omega))
 have HSO:=Lib.hid hso
 have HBB:=Lib.hid hbB
 have HF:=Lib.hid hF
 have HB:=Lib.hid hb
 clear hso hdt hD hF hb hbB
 go_wp2_with fail
 refine HSO.out.mono ?_
 rintro e w2 ⟨s,Z,rfl,hs2,hT2⟩
 have HQ:=Lib.hid (qnew_any w2)
 have HS2:=Lib.hid hs2
 have HT2:=Lib.hid hT2
 clear hs2 hT2
 go_wp2_with fail
 refine HQ.out.mono ?_
 rintro e w3 ⟨rfl,hb3⟩
 have HB3:=Lib.hid hb3
 clear hb3
 unfold qNew
 go_wp2_with fail
 go_ret2
 obtain ⟨V,hV⟩ : ∃ V,w3.alloc (.cells (.pointer (some ⟨d,0,none⟩) :: .pointer (some ⟨s,0,none⟩) :: qNew 2).toArray 48) = V:=⟨_,rfl⟩
 have hr : Row V w3.heap.size 48 (.pointer (some ⟨d,0,none⟩) :: .pointer (some ⟨s,0,none⟩) :: qNew 2):=by rw [<- hV];exact Row.new w3 _ _
 have hbV : Below w3.heap.size w3 V:=by rw [<- hV];exact (Below.refl _ _).alloc (Nat.le_refl _) _
 have hsV:=(HS2.out.below HB3.out).below hbV
 have hTd : Below B w1 w2:=HT2.out.down (fun b hb=>Nat.le_trans HT.out.le (HF.out b hb)) (Nat.le_trans HT.out.le HB.out.size)
 have hB2 : B <= w2.heap.size:=Nat.le_trans (Nat.le_trans HT.out.le HB.out.size) HT2.out.size
 refine ⟨w3.heap.size,s,d,Z,rfl,⟨?_,?_,fun hZ=>?_,Nat.le_trans hB2 HB3.out.size⟩,?_⟩
 ·rw [<- hV] at hsV
  exact hsV
 ·rw [<- hV] at hr
  exact hr
 ·have:=HS2.out.lt _ hZ
  have:=HB3.out.size
  omega
 ·have h3 : Below B w V:=((HBB.out.trans hTd).trans (HB3.out.mono hB2)).trans (hbV.mono (Nat.le_trans hB2 HB3.out.size))
  rw [<- hV] at h3
  exact h3
end
section
open Go Go.RowKit
structure InsF (w0 : World) (a b : Int) (w5 : World) (A : Addr) : Prop where
 rd : Reads w5 w5.heap.size 1 (some A) 2 (ints [a,b])
 new : w0.heap.size <= A.block
 bel : Below w0.heap.size w0 w5
def InsP (w0 : World) (x a b : Int) (e : Ending) (w5 : World) : Prop:=∃ A,e = .returned (.agg #[.int .i64 1,.int .i64 x,.slice (some A) 2 2,.int .i64 0]) /\ InsF w0 a b w5 A
theorem xins_p (x a b : Int) (w : World) : Calls Tryz.prog 25 #[.int .i64 x,.int .i64 a,.int .i64 b] w (InsP w x a b):=by
 refine (xins_any x a b w).mono ?_
 rintro e w' ⟨A,rfl,h1,h2,h3⟩
 exact ⟨A,rfl,h1,h2,h3⟩
structure AwB (wr : World) (B : Nat) (Z : Nat -> Prop) (s d tn : Nat) (R : List RK) (k : KS) (er : Int) (was : Bool) (y : Nat) (wc : World) : Prop where
 ex : ∃ Z',ShW wc B Z' s d 4000 tn R k /\ Turn Z wr Z' wc /\ ¬ Z' y
 row : Row wc y 52 [.int .i64 er,.bool was,.slice none 0 0]
 new : wr.heap.size <= y
def PostF (B : Nat) (Z : Nat -> Prop) (s d tn : Nat) (R : List RK) (k : KS) (w5 w6 : World) : Prop:=∃ Z',ShW w6 B Z' s d 4000 tn R k /\ Turn Z w5 Z' w6
section
variable {wr w5 w6 : World} {B : Nat} {Z : Nat -> Prop} {s d tn x : Nat} {R R' : List RK} {k k' : KS} {er : Int} {was : Bool}
theorem awb_last (hT : Turn Z wr Z w5) (hp : PostF B Z s d tn R' k' w5 w6) : AwB wr B Z s d tn R' k' er was w6.heap.size (w6.alloc (.cells #[.int .i64 er,.bool was,.slice none 0 0] 52)):=by
 obtain ⟨Z',hs,T⟩:=hp
 have hb : Below w6.heap.size w6 (w6.alloc (.cells #[.int .i64 er,.bool was,.slice none 0 0] 52)):=(Below.refl _ _).alloc (Nat.le_refl _) _
 refine ⟨⟨Z',hs.below hb,(hT.trans T).trans (Turn.below _ hb),fun hZ=>?_⟩,Row.new w6 _ _,Nat.le_trans hT.size T.size⟩
 have:=hs.lt _ hZ
 omega
theorem awb_set {y : Nat} (hT : Turn Z wr Z w5) (hyl : y < w5.heap.size) (hyw : wr.heap.size <= y) (hy : ¬ Z y) (hB : B <= y) (hr : Row w5 y 52 [.int .i64 0,.bool false,.slice none 0 0]) (hp : PostF B Z s d tn R' k' w5 w6) :
  Row w6 y 52 [.int .i64 0,.bool false,.slice none 0 0] /\ AwB wr B Z s d tn R' k' er was y (((w6.setCell ⟨y,0,none⟩ (.int .i64 er)).setCell ⟨y,1,none⟩ (.bool was)).setCell ⟨y,2,none⟩ (.slice none 0 0)):=by
 obtain ⟨Z',hs,T⟩:=hp
 have hr6:=hr.keep (T.block y hyl hy)
 have hTT:=(turn_one y w6 0 (.int .i64 er)).trans ((turn_one y _ 1 (.bool was)).trans (turn_one y _ 2 (.slice none 0 0)))
 have hz : ¬ Z' y:=fun hZ=>by
  rcases T.foot y hZ with h | h
  ·exact hy h
  ·omega
 refine ⟨hr6,⟨Z',hs.turn hTT (fun b hb e=>hz (e ▸ hb)) (fun b e=>e ▸ hB),(hT.trans T).aside hTT hyw,hz⟩,?_,hyw⟩
 exact ((hr6.set 0 (.int .i64 er)).set 1 (.bool was)).set 2 (.slice none 0 0)
end
end
section
open Go Go.RowKit
def WrP (B : Nat) (Z : Nat -> Prop) (s d tn : Nat) (R : List RK) (k : KS) (er : Int) (was : Bool) (e0 : Int) (w5 : World) (e : Ending) (w6 : World) : Prop:=e = .returned (.tuple #[.agg #[.int .i64 er,.bool was,.slice none 0 0],.int .i64 e0]) /\ PostF B Z s d tn R k w5 w6
theorem mayl_len : ∀ (R : List RK) (k : KS),MayL k R -> (encs (R.map RK.bytes)).length <= 32782 * R.length
 | [],k,_=>by simp [encs]
 | r :: R,k,h=>by
  have h1:=mayl_len R (doK k r) h.2
  have h2:=recB_len (RK.May.ok h.1)
  have h3 : (RK.bytes r).length <= 32768:=h2
  rw [List.map_cons,encs_cons,List.length_append,enc_len,List.length_cons]
  omega
theorem ShW.enc_len {w : World} {B : Nat} {Z : Nat -> Prop} {s d N tn : Nat} {R : List RK} {k : KS} (h : ShW w B Z s d N tn R k) : (encs (R.map RK.bytes)).length <= 32782 * R.length:=by
 obtain ⟨Fd,Gd,Fk,Ft,lp,g,t,p,st,su,h,rfl⟩:=h
 exact mayl_len R _ h.may
section
variable {wr w5 : World} {B : Nat} {Z : Nat -> Prop} {s d tn : Nat} {R : List RK} {k : KS}
theorem wcon_ins (h : ShW wr B Z s d 4000 tn R k) (hst : k.st = 2) (cl sq x a b : Int) (hm : Be.mayB cl sq = true) (hf : (Be.findM k.q cl sq).2 = 3) (hfew : k.T.length < 512) (hk : ck [a,b] (k.dm : Int) = 0) (h3 : Be.S64 x) (hv1 : k.vr < 1000000000) (hr : R.length <= 6) {A : Addr} (hb : Below wr.heap.size wr w5) (hrd : Reads w5 w5.heap.size 1 (some A) 2 (ints [a,b])) (hA : wr.heap.size <= A.block) :
  Calls Tryz.prog 16 #[.pointer (some ⟨s,0,none⟩),.int .i64 cl,.int .i64 sq,.agg #[.int .i64 1,.int .i64 x,.slice (some A) 2 2,.int .i64 0]] w5 (WrP B Z s d tn (R ++ [RK.ins cl sq (x,[a,b])]) (insK k cl sq (x,[a,b])) 0 (hasT x k.T) 0 w5):=by
 have hlt:=h.lt
 have hen:=h.enc_len
 obtain ⟨Fd,Gd,Fk,Ft,lp,g,t,p,st,su,h,rfl⟩:=h
 have hc64 : Be.S64 cl /\ Be.S64 sq:=by
  simp only [Be.mayB,Be.cliB,Be.seqB,Bool.and_eq_true,decide_eq_true_eq] at hm
  exact ⟨⟨by omega,by omega⟩,⟨by omega,by omega⟩⟩
 have hmay : (RK.ins cl sq (x,[a,b])).May k:=⟨hc64.1,hc64.2,h3,hk,.inr hfew,h.good.v0,h.good.v1⟩
 have hbl : (RK.bytes (RK.ins cl sq (x,[a,b]))).length <= 32768:=recB_len (RK.May.ok hmay)
 have hB : 1999 <= hB 4000 tn:=by
  unfold hB
  split <;> omega
 refine (write_ins (h.below hb) hst cl sq x 0 (some A) 2 2 [a,b] hm hf hrd (by unfold maxLen;omega) hfew hk (fun ad e hZ=>?_) h3 hv1 (by omega)).mono ?_
 ·cases e
  have:=hlt _ hZ
  omega
 ·rintro e w' ⟨rfl,Z',h1,h2⟩
  exact ⟨rfl,Z',h1,h2⟩
theorem wcon_again (h : ShW wr B Z s d 4000 tn R k) (hst : k.st = 2) (cl sq x a b : Int) (hm : Be.mayB cl sq = true) (rp : Bool) (hf : Be.findM k.q cl sq = ((0,rp),0)) {A : Addr} (hb : Below wr.heap.size wr w5) :
  Calls Tryz.prog 16 #[.pointer (some ⟨s,0,none⟩),.int .i64 cl,.int .i64 sq,.agg #[.int .i64 1,.int .i64 x,.slice (some A) 2 2,.int .i64 0]] w5 (WrP B Z s d tn R k 0 rp 0 w5):=by
 have h5:=h.below hb
 obtain ⟨Fd,Gd,Fk,Ft,lp,g,t,p,st,su,h,rfl⟩:=h
 refine (write_again (h.below hb) hst cl sq x 0 1 (.inl rfl) (some A) 2 2 hm (0,rp) 0 hf (by decide) (by decide)).mono ?_
 rintro e w' ⟨rfl,h1⟩
 exact ⟨rfl,_,h5.below h1,Turn.below _ h1⟩
end
section
variable {wr w5 w6 : World} {B : Nat} {Z : Nat -> Prop} {s d tn x : Nat} {R R' : List RK} {k k' : KS} {er : Int} {was : Bool} {a b : Int} {A : Addr}
theorem insf1 (h : InsF wr.drew a b w5 A) : Below wr.heap.size wr w5 /\ Reads w5 w5.heap.size 1 (some A) 2 (ints [a,b]) /\ wr.heap.size <= A.block:=⟨(Below.refl _ _).drew.trans h.bel,h.rd,h.new⟩
theorem insf2 (h : InsF wr.drew a b w5 A) : Below wr.heap.size wr (w5.alloc (.cells #[.int .i64 0,.bool false,.slice none 0 0] 52)) /\ Reads (w5.alloc (.cells #[.int .i64 0,.bool false,.slice none 0 0] 52)) (w5.alloc (.cells #[.int .i64 0,.bool false,.slice none 0 0] 52)).heap.size 1 (some A) 2 (ints [a,b]) /\ wr.heap.size <= A.block:=by
 have h1:=(insf1 h).1
 have hb : Below w5.heap.size w5 (w5.alloc (.cells #[.int .i64 0,.bool false,.slice none 0 0] 52)):=(Below.refl _ _).alloc (Nat.le_refl _) _
 exact ⟨h1.trans (hb.mono h1.size),(h.rd.below hb).more hb.size,h.new⟩
theorem insf3 (h : InsF (wr.alloc (.cells #[.int .i64 0,.bool false,.slice none 0 0] 52)).drew a b w5 A) : Below wr.heap.size wr w5 /\ Reads w5 w5.heap.size 1 (some A) 2 (ints [a,b]) /\ wr.heap.size <= A.block:=by
 have hb : Below wr.heap.size wr (wr.alloc (.cells #[.int .i64 0,.bool false,.slice none 0 0] 52)).drew:=((Below.refl _ _).alloc (Nat.le_refl _) _).drew
 have hs : wr.heap.size <= (wr.alloc (.cells #[.int .i64 0,.bool false,.slice none 0 0] 52)).drew.heap.size:=hb.size
 exact ⟨hb.trans (h.bel.mono hs),h.rd,Nat.le_trans hs h.new⟩
theorem sx_below {v : Value} (hx : wr.cell? ⟨x,1,none⟩ = some v) (hl : x < wr.heap.size) (hb : Below wr.heap.size wr w5) : w5.cell? ⟨x,1,none⟩ = some v:=(hb.cell hl).trans hx
theorem sx_post {v : Value} (hx : w5.cell? ⟨x,1,none⟩ = some v) (hl : x < w5.heap.size) (hZ : ¬ Z x) (hp : PostF B Z s d tn R' k' w5 w6) : w6.cell? ⟨x,1,none⟩ = some v:=by
 obtain ⟨Z',_,T⟩:=hp
 rw [World.cell?,T.block x hl hZ]
 exact hx
theorem wr_end1 (h : InsF wr.drew a b w5 A) (hp : PostF B Z s d tn R' k' w5 w6) : AwB wr B Z s d tn R' k' er was w6.heap.size (w6.alloc (.cells #[.int .i64 er,.bool was,.slice none 0 0] 52)) :=
 awb_last (Turn.below Z (insf1 h).1) hp
theorem wr_end2 (hZ : ∀ b,Z b -> b < wr.heap.size) (hB : B <= wr.heap.size) (h : InsF wr.drew a b w5 A) (hp : PostF B Z s d tn R' k' (w5.alloc (.cells #[.int .i64 0,.bool false,.slice none 0 0] 52)) w6) :
  Row w6 w5.heap.size 52 [.int .i64 0,.bool false,.slice none 0 0] /\ AwB wr B Z s d tn R' k' er was w5.heap.size (((w6.setCell ⟨w5.heap.size,0,none⟩ (.int .i64 er)).setCell ⟨w5.heap.size,1,none⟩ (.bool was)).setCell ⟨w5.heap.size,2,none⟩ (.slice none 0 0)) :=
 awb_set (Turn.below Z (insf2 h).1) (by simp) (insf1 h).1.size (fun hz=>by have:=hZ _ hz;have:=(insf1 h).1.size;omega) (Nat.le_trans hB (insf1 h).1.size) (Row.new w5 52 [.int .i64 0,.bool false,.slice none 0 0]) hp
theorem wr_end3 (hZ : ∀ b,Z b -> b < wr.heap.size) (hB : B <= wr.heap.size) (h : InsF (wr.alloc (.cells #[.int .i64 0,.bool false,.slice none 0 0] 52)).drew a b w5 A) (hp : PostF B Z s d tn R' k' w5 w6) :
  Row w6 wr.heap.size 52 [.int .i64 0,.bool false,.slice none 0 0] /\ AwB wr B Z s d tn R' k' er was wr.heap.size (((w6.setCell ⟨wr.heap.size,0,none⟩ (.int .i64 er)).setCell ⟨wr.heap.size,1,none⟩ (.bool was)).setCell ⟨wr.heap.size,2,none⟩ (.slice none 0 0)):=by
 have hsz : wr.heap.size < (wr.alloc (.cells #[.int .i64 0,.bool false,.slice none 0 0] 52)).drew.heap.size:=by simp
 have hr : Row (wr.alloc (.cells #[.int .i64 0,.bool false,.slice none 0 0] 52)).drew wr.heap.size 52 [.int .i64 0,.bool false,.slice none 0 0]:=Row.new wr 52 [.int .i64 0,.bool false,.slice none 0 0]
 exact awb_set (Turn.below Z (insf3 h).1) (Nat.lt_of_lt_of_le hsz h.bel.size) (Nat.le_refl _) (fun hz=>by have:=hZ _ hz;omega) hB (hr.keep (h.bel.block _ hsz)) hp
theorem wr_s1 {v : Value} (hx : wr.cell? ⟨x,1,none⟩ = some v) (hl : x < wr.heap.size) (hZ : ¬ Z x) (hb : Below wr.heap.size wr w5) (hp : PostF B Z s d tn R' k' w5 w6) : w6.cell? ⟨x,1,none⟩ = some v :=
 sx_post (sx_below hx hl hb) (Nat.lt_of_lt_of_le hl hb.size) hZ hp
theorem AwB.sx {wc : World} {y : Nat} {v : Value} (h : AwB wr B Z s d tn R' k' er was y wc) (hx : wr.cell? ⟨x,1,none⟩ = some v) (hl : x < wr.heap.size) (hZ : ¬ Z x) : wc.cell? ⟨x,1,none⟩ = some v:=by
 obtain ⟨Z',hs,T,hy⟩:=h.ex
 rw [World.cell?,T.block x hl hZ]
 exact hx
theorem AwB.side {wc : World} {y : Nat} {qs : List Value} {R0 : List RK} {k0 : KS} (hS : Side wr B Z x s d tn R0 k0 qs) (h : AwB wr B Z s d tn R' k' er was y wc) : ∃ Z',Side wc B Z' x s d tn R' k' qs /\ Turn Z wr Z' wc /\ ¬ Z' y:=by
 obtain ⟨Z',hs,T,hy⟩:=h.ex
 refine ⟨Z',⟨hs,hS.row.keep (T.block _ hS.row.lt hS.nx),fun hz=>?_,hS.xB⟩,T,hy⟩
 rcases T.foot x hz with h | h
 ·exact hS.nx h
 ·have:=hS.row.lt
  omega
end
end
section
open Go Go.RowKit
abbrev aR0 : List RK:=[emptyR 2 2 1 0]
abbrev aK0 : KS:=emptyK 2 2 1 0
abbrev aR1 : List RK:=aR0 ++ [RK.ins 0 1 (7,[1,2])]
abbrev aK1 : KS:=insK aK0 0 1 (7,[1,2])
abbrev aR2 : List RK:=aR1 ++ [RK.ins 0 2 (7,[5,5])]
abbrev aK2 : KS:=insK aK1 0 2 (7,[5,5])
theorem aK0_find : (Be.findM aK0.q 0 1).2 = 3:=by decide +kernel
theorem aK1_find : Be.findM aK1.q 0 1 = ((0,false),0):=by decide +kernel
theorem aK1_find2 : (Be.findM aK1.q 0 2).2 = 3:=by decide +kernel
theorem aK2_top : topH aK2.T [5,6] 1 9 = [(7,1)]:=by decide +kernel
theorem aK0_has : hasT 7 aK0.T = false:=by decide +kernel
theorem aK1_has : hasT 7 aK1.T = true:=by decide +kernel
theorem aK2_stand : standV aK2 = 2:=by decide +kernel
section
variable {wr w5 : World} {B : Nat} {Z : Nat -> Prop} {s d : Nat} {A : Addr}
theorem aw_c1 (h : ShW wr B Z s d 4000 1 aR0 aK0) (hb : Below wr.heap.size wr w5) (hr : Reads w5 w5.heap.size 1 (some A) 2 (ints [1,2])) (hA : wr.heap.size <= A.block) :
  Calls Tryz.prog 16 #[.pointer (some ⟨s,0,none⟩),.int .i64 0,.int .i64 1,.agg #[.int .i64 1,.int .i64 7,.slice (some A) 2 2,.int .i64 0]] w5 (WrP B Z s d 1 aR1 aK1 0 false 0 w5):=by
 have:=wcon_ins h rfl 0 1 7 1 2 (by decide) aK0_find (by decide) (by decide +kernel) ⟨by decide,by decide⟩ (by decide) (by decide) hb hr hA
 rw [aK0_has] at this
 exact this
theorem aw_c2 (h : ShW wr B Z s d 4000 1 aR1 aK1) (hb : Below wr.heap.size wr w5) :
  Calls Tryz.prog 16 #[.pointer (some ⟨s,0,none⟩),.int .i64 0,.int .i64 1,.agg #[.int .i64 1,.int .i64 7,.slice (some A) 2 2,.int .i64 0]] w5 (WrP B Z s d 1 aR1 aK1 0 false 0 w5) :=
 wcon_again h rfl 0 1 7 9 9 (by decide) false aK1_find hb
theorem aw_c3 (h : ShW wr B Z s d 4000 1 aR1 aK1) (hb : Below wr.heap.size wr w5) (hr : Reads w5 w5.heap.size 1 (some A) 2 (ints [5,5])) (hA : wr.heap.size <= A.block) :
  Calls Tryz.prog 16 #[.pointer (some ⟨s,0,none⟩),.int .i64 0,.int .i64 2,.agg #[.int .i64 1,.int .i64 7,.slice (some A) 2 2,.int .i64 0]] w5 (WrP B Z s d 1 aR2 aK2 0 true 0 w5):=by
 have:=wcon_ins h rfl 0 2 7 5 5 (by decide) aK1_find2 (by decide +kernel) (by decide +kernel) ⟨by decide,by decide⟩ (by decide +kernel) (by decide) hb hr hA
 rw [aK1_has] at this
 exact this
end
theorem sawake_any {B : Nat} (w : World) (hT : Tab w B) (hP : Tabs w B) : Calls Tryz.prog 12 #[] w fun e w'=>e = .returned (.bool true) /\ Below B w w':=by
 have HBE:=Lib.hid (begun_any w hT hP)
 have HBl:=Lib.hid hT.le
 clear hT hP
 go_enter Tryz.func12,Tryz.ntmps12
 go_wp2_with fail
 refine HBE.out.mono ?_
 rintro e w1 hpost
 unfold BegunPost at hpost
 obtain ⟨x,s,d,Z1,rfl,S1,hb1⟩:=hpost
 have x1:=S1.row.cell (j:=1) (u:=.pointer (some ⟨s,0,none⟩)) rfl
 have xl:=S1.row.lt
 have HS1:=Lib.hid S1
 have HB1:=Lib.hid hb1
 have hfo : Calls Tryz.prog 15 #[.pointer (some ⟨s,0,none⟩),.int .i64 1] w1 (EmptyPost B s d 4000 0 Z1 2 2 1 0 w1):=by
  obtain ⟨Fd,Gd,Fk,Ft,lp,g,t,p,st,su,h,rfl⟩:=S1.sh
  have hk : (ks0 2).dm = 2:=rfl
  have hmay : (emptyR 2 2 1 0).May (ks0 2):=⟨⟨by decide,by decide⟩,⟨by decide,by decide⟩,⟨by decide,by decide⟩,⟨by omega,by omega⟩,by decide,Be.okq0⟩
  have hbl : (RK.bytes (emptyR 2 2 1 0)).length <= 32768:=recB_len (RK.May.ok hmay)
  refine found_ok h (by omega) 1 (by decide) rfl (by decide) ?_
  show (encs [(emptyR 2 2 1 0).bytes]).length <= 128 * hB 4000 1
  rw [encs_cons,List.length_append,enc_len]
  have : (encs []).length = 0:=rfl
  have : hB 4000 1 = 1999:=rfl
  omega
 have HFO:=Lib.hid hfo
 clear S1 hb1 hfo
 go_wp2_with fail
 refine HFO.out.mono ?_
 rintro e w2 ⟨rfl,Z2,hs2,hT2⟩
 have S2 : Side w2 B Z2 x s d 1 aR0 aK0 (qNew 2):=⟨hs2,HS1.out.row.keep (hT2.block _ HS1.out.row.lt HS1.out.nx),fun hz=>by
  rcases hT2.foot x hz with h | h
  ·exact HS1.out.nx h
  ·have:=HS1.out.row.lt
   omega,HS1.out.xB⟩
 have HB2:=Lib.hid (HB1.out.trans (hT2.down HS1.out.sh.far HS1.out.sh.tabs.1.le))
 clear HBE HFO x1 xl hs2 hT2
 have x1:=S2.row.cell (j:=1) (u:=.pointer (some ⟨s,0,none⟩)) rfl
 have xl:=S2.row.lt
 have HW2:=Lib.hid (fun (w5 : World) (A : Addr) (hb : Below w2.heap.size w2 w5) (hr : Reads w5 w5.heap.size 1 (some A) 2 (ints [1,2])) (hA : w2.heap.size <= A.block)=>aw_c1 S2.sh hb hr hA)
 have HA2:=Lib.hid (fun (w5 : World) (A : Addr) (h : InsF w2.drew 1 2 w5 A)=>And.intro (sx_below x1 xl (insf1 h).1) (And.intro (HW2.out _ A (insf1 h).1 (insf1 h).2.1 (insf1 h).2.2) (HW2.out _ A (insf2 h).1 (insf2 h).2.1 (insf2 h).2.2)))
 have HC2:=Lib.hid (fun (w5 : World) (A : Addr) (h : InsF (w2.alloc (.cells #[.int .i64 0,.bool false,.slice none 0 0] 52)).drew 1 2 w5 A)=>And.intro (sx_below x1 xl (insf3 h).1) (HW2.out _ A (insf3 h).1 (insf3 h).2.1 (insf3 h).2.2))
 have HX2:=Lib.hid x1
 have HXl2:=Lib.hid xl
 have HI1:=Lib.hid (xins_p 7 1 2 w2.drew)
 have HI2:=Lib.hid (xins_p 7 1 2 (w2.alloc (.cells #[.int .i64 0,.bool false,.slice none 0 0] 52)).drew)
 have HZ2:=Lib.hid S2.nx
 have HL2:=Lib.hid S2.sh.lt
 have HBw2:=Lib.hid S2.sh.tabs.1.le
 have HS2:=Lib.hid S2
 clear S2
 go_upto_region 4 with fail
 go_cut [3,4] from 29 to 37 (fun s3 s4 wc=>∃ y : Nat,s3 = .pointer (some ⟨y,0,none⟩) /\ s4 = .int .i64 0 /\ Hid (AwB w2 B Z2 s d 1 aR1 aK1 0 false y wc))
 case first =>
  go_region_held3 (fun w'=>w'.cell? ⟨x,1,none⟩ = some (.pointer (some ⟨s,0,none⟩)))
   (first | with_reducible exact x1 | with_reducible exact HS5.out | with_reducible exact HS6.out | go_keep)
   (first
    | (go_at_call 25;with_reducible refine HI1.out.mono ?_;intro e w5 hpost;unfold InsP at hpost;obtain ⟨A,rfl,hi⟩:=hpost;have HII:=Lib.hid hi;have HE:=Lib.hid (HA2.out w5 A hi);have HS5:=Lib.hid HE.out.1;have x5:=HE.out.1;clear hi)
    | (go_at_call 25;with_reducible refine HI2.out.mono ?_;intro e w5 hpost;unfold InsP at hpost;obtain ⟨A,rfl,hi⟩:=hpost;have HII:=Lib.hid hi;have HE:=Lib.hid (HC2.out w5 A hi);have HS5:=Lib.hid HE.out.1;have x5:=HE.out.1;clear hi)
    | (go_at_call 16;with_reducible refine HE.out.2.1.mono ?_;intro e w6 hpost;unfold WrP at hpost;obtain ⟨rfl,hp⟩:=hpost;have HP:=Lib.hid (wr_end1 (er:=0) (was:=false) HII.out hp);have HS5:=Lib.hid (wr_s1 HX2.out HXl2.out HZ2.out (insf1 HII.out).1 hp);have HS6:=Lib.hid (HP.out.sx HX2.out HXl2.out HZ2.out);clear hp x5)
    | (go_at_call 16;with_reducible refine HE.out.2.2.mono ?_;intro e w6 hpost;unfold WrP at hpost;obtain ⟨rfl,hp⟩:=hpost;have HP:=Lib.hid (wr_end2 (er:=0) (was:=false) HL2.out HBw2.out HII.out hp);have HS5:=Lib.hid (wr_s1 HX2.out HXl2.out HZ2.out (insf2 HII.out).1 hp);have HS6:=Lib.hid (HP.out.2.sx HX2.out HXl2.out HZ2.out);have hob:=HP.out.1;have o0:=hob.cell (j:=0) rfl;have o1:=hob.cell (j:=1) rfl;have o2:=hob.cell (j:=2) rfl;have of0:=hob.frozen 0;have of1:=hob.frozen 1;have of2:=hob.frozen 2;have ol:=hob.lt;clear hp x5 hob)
    | (go_at_call 16;with_reducible refine HE.out.2.mono ?_;intro e w6 hpost;unfold WrP at hpost;obtain ⟨rfl,hp⟩:=hpost;have HP:=Lib.hid (wr_end3 (er:=0) (was:=false) HL2.out HBw2.out HII.out hp);have HS5:=Lib.hid (wr_s1 HX2.out HXl2.out HZ2.out (insf3 HII.out).1 hp);have HS6:=Lib.hid (HP.out.2.sx HX2.out HXl2.out HZ2.out);have hob:=HP.out.1;have o0:=hob.cell (j:=0) rfl;have o1:=hob.cell (j:=1) rfl;have o2:=hob.cell (j:=2) rfl;have of0:=hob.frozen 0;have of1:=hob.frozen 1;have of2:=hob.frozen 2;have ol:=hob.lt;clear hp x5 hob))
  all_goals
   go_wp2_with fail
   go_meet
  ·exact ⟨_,rfl,rfl,Lib.hid HP.out⟩
  ·exact ⟨_,rfl,rfl,Lib.hid HP.out.2⟩
  ·exact ⟨_,rfl,rfl,Lib.hid HP.out.2⟩
 case rest =>
 obtain ⟨w3,hw3⟩ : ∃ w3,w3 = wc:=⟨_,rfl⟩
 subst hw3
 obtain ⟨y2,rfl,rfl,HY2⟩:=hcut
 obtain ⟨Z3,S3,T3,hyz3⟩:=HY2.out.side HS2.out
 clear HW2 HA2 HC2 HI1 HI2 x1 xl
 have x1:=S3.row.cell (j:=1) (u:=.pointer (some ⟨s,0,none⟩)) rfl
 have xl:=S3.row.lt
 have HB3:=Lib.hid (HB2.out.trans (T3.down HS2.out.sh.far HBw2.out))
 have HT3:=Lib.hid T3
 have HR2:=Lib.hid HY2.out.row
 have HRz2:=Lib.hid hyz3
 clear T3 hyz3
 have HW3:=Lib.hid (fun (w5 : World) (A : Addr) (hb : Below w3.heap.size w3 w5) (hr : Reads w5 w5.heap.size 1 (some A) 2 (ints [9,9])) (hA : w3.heap.size <= A.block)=>aw_c2 (A:=A) S3.sh hb)
 have HA3:=Lib.hid (fun (w5 : World) (A : Addr) (h : InsF w3.drew 9 9 w5 A)=>And.intro (sx_below x1 xl (insf1 h).1) (And.intro (HW3.out _ A (insf1 h).1 (insf1 h).2.1 (insf1 h).2.2) (HW3.out _ A (insf2 h).1 (insf2 h).2.1 (insf2 h).2.2)))
 have HC3:=Lib.hid (fun (w5 : World) (A : Addr) (h : InsF (w3.alloc (.cells #[.int .i64 0,.bool false,.slice none 0 0] 52)).drew 9 9 w5 A)=>And.intro (sx_below x1 xl (insf3 h).1) (HW3.out _ A (insf3 h).1 (insf3 h).2.1 (insf3 h).2.2))
 have HX3:=Lib.hid x1
 have HXl3:=Lib.hid xl
 have HI1:=Lib.hid (xins_p 7 9 9 w3.drew)
 have HI2:=Lib.hid (xins_p 7 9 9 (w3.alloc (.cells #[.int .i64 0,.bool false,.slice none 0 0] 52)).drew)
 have HZ3:=Lib.hid S3.nx
 have HL3:=Lib.hid S3.sh.lt
 have HBw3:=Lib.hid S3.sh.tabs.1.le
 have HS3:=Lib.hid S3
 clear S3
 go_upto_region 5 with fail
 go_cut [5,6] from 38 to 46 (fun s3 s4 wc=>∃ y : Nat,s3 = .pointer (some ⟨y,0,none⟩) /\ s4 = .int .i64 0 /\ Hid (AwB w3 B Z3 s d 1 aR1 aK1 0 false y wc))
 case first =>
  go_region_held3 (fun w'=>w'.cell? ⟨x,1,none⟩ = some (.pointer (some ⟨s,0,none⟩)))
   (first | with_reducible exact x1 | with_reducible exact HS5.out | with_reducible exact HS6.out | go_keep)
   (first
    | (go_at_call 25;with_reducible refine HI1.out.mono ?_;intro e w5 hpost;unfold InsP at hpost;obtain ⟨A,rfl,hi⟩:=hpost;have HII:=Lib.hid hi;have HE:=Lib.hid (HA3.out w5 A hi);have HS5:=Lib.hid HE.out.1;have x5:=HE.out.1;clear hi)
    | (go_at_call 25;with_reducible refine HI2.out.mono ?_;intro e w5 hpost;unfold InsP at hpost;obtain ⟨A,rfl,hi⟩:=hpost;have HII:=Lib.hid hi;have HE:=Lib.hid (HC3.out w5 A hi);have HS5:=Lib.hid HE.out.1;have x5:=HE.out.1;clear hi)
    | (go_at_call 16;with_reducible refine HE.out.2.1.mono ?_;intro e w6 hpost;unfold WrP at hpost;obtain ⟨rfl,hp⟩:=hpost;have HP:=Lib.hid (wr_end1 (er:=0) (was:=false) HII.out hp);have HS5:=Lib.hid (wr_s1 HX3.out HXl3.out HZ3.out (insf1 HII.out).1 hp);have HS6:=Lib.hid (HP.out.sx HX3.out HXl3.out HZ3.out);clear hp x5)
    | (go_at_call 16;with_reducible refine HE.out.2.2.mono ?_;intro e w6 hpost;unfold WrP at hpost;obtain ⟨rfl,hp⟩:=hpost;have HP:=Lib.hid (wr_end2 (er:=0) (was:=false) HL3.out HBw3.out HII.out hp);have HS5:=Lib.hid (wr_s1 HX3.out HXl3.out HZ3.out (insf2 HII.out).1 hp);have HS6:=Lib.hid (HP.out.2.sx HX3.out HXl3.out HZ3.out);have hob:=HP.out.1;have o0:=hob.cell (j:=0) rfl;have o1:=hob.cell (j:=1) rfl;have o2:=hob.cell (j:=2) rfl;have of0:=hob.frozen 0;have of1:=hob.frozen 1;have of2:=hob.frozen 2;have ol:=hob.lt;clear hp x5 hob)
    | (go_at_call 16;with_reducible refine HE.out.2.mono ?_;intro e w6 hpost;unfold WrP at hpost;obtain ⟨rfl,hp⟩:=hpost;have HP:=Lib.hid (wr_end3 (er:=0) (was:=false) HL3.out HBw3.out HII.out hp);have HS5:=Lib.hid (wr_s1 HX3.out HXl3.out HZ3.out (insf3 HII.out).1 hp);have HS6:=Lib.hid (HP.out.2.sx HX3.out HXl3.out HZ3.out);have hob:=HP.out.1;have o0:=hob.cell (j:=0) rfl;have o1:=hob.cell (j:=1) rfl;have o2:=hob.cell (j:=2) rfl;have of0:=hob.frozen 0;have of1:=hob.frozen 1;have of2:=hob.frozen 2;have ol:=hob.lt;clear hp x5 hob))
  all_goals
   go_wp2_with fail
   go_meet
  ·exact ⟨_,rfl,rfl,Lib.hid HP.out⟩
  ·exact ⟨_,rfl,rfl,Lib.hid HP.out.2⟩
  ·exact ⟨_,rfl,rfl,Lib.hid HP.out.2⟩
 case rest =>
 obtain ⟨w4,hw4⟩ : ∃ w4,w4 = wc:=⟨_,rfl⟩
 subst hw4
 obtain ⟨y3,rfl,rfl,HY3⟩:=hcut
 obtain ⟨Z4,S4,T4,hyz4⟩:=HY3.out.side HS3.out
 clear HW3 HA3 HC3 HI1 HI2 x1 xl
 have x1:=S4.row.cell (j:=1) (u:=.pointer (some ⟨s,0,none⟩)) rfl
 have xl:=S4.row.lt
 have HB4:=Lib.hid (HB3.out.trans (T4.down HS3.out.sh.far HBw3.out))
 have HT4:=Lib.hid T4
 have HR3:=Lib.hid HY3.out.row
 have HRz3:=Lib.hid hyz4
 clear T4 hyz4
 have HW4:=Lib.hid (fun (w5 : World) (A : Addr) (hb : Below w4.heap.size w4 w5) (hr : Reads w5 w5.heap.size 1 (some A) 2 (ints [5,5])) (hA : w4.heap.size <= A.block)=>aw_c3 S4.sh hb hr hA)
 have HA4:=Lib.hid (fun (w5 : World) (A : Addr) (h : InsF w4.drew 5 5 w5 A)=>And.intro (sx_below x1 xl (insf1 h).1) (And.intro (HW4.out _ A (insf1 h).1 (insf1 h).2.1 (insf1 h).2.2) (HW4.out _ A (insf2 h).1 (insf2 h).2.1 (insf2 h).2.2)))
 have HC4:=Lib.hid (fun (w5 : World) (A : Addr) (h : InsF (w4.alloc (.cells #[.int .i64 0,.bool false,.slice none 0 0] 52)).drew 5 5 w5 A)=>And.intro (sx_below x1 xl (insf3 h).1) (HW4.out _ A (insf3 h).1 (insf3 h).2.1 (insf3 h).2.2))
 have HX4:=Lib.hid x1
 have HXl4:=Lib.hid xl
 have HI1:=Lib.hid (xins_p 7 5 5 w4.drew)
 have HI2:=Lib.hid (xins_p 7 5 5 (w4.alloc (.cells #[.int .i64 0,.bool false,.slice none 0 0] 52)).drew)
 have HZ4:=Lib.hid S4.nx
 have HL4:=Lib.hid S4.sh.lt
 have HBw4:=Lib.hid S4.sh.tabs.1.le
 have HS4:=Lib.hid S4
 clear S4
 go_upto_region 6 with fail
 go_cut [7,8] from 47 to 55 (fun s3 s4 wc=>∃ y : Nat,s3 = .pointer (some ⟨y,0,none⟩) /\ s4 = .int .i64 0 /\ Hid (AwB w4 B Z4 s d 1 aR2 aK2 0 true y wc))
 case first =>
  go_region_held3 (fun w'=>w'.cell? ⟨x,1,none⟩ = some (.pointer (some ⟨s,0,none⟩)))
   (first | with_reducible exact x1 | with_reducible exact HS5.out | with_reducible exact HS6.out | go_keep)
   (first
    | (go_at_call 25;with_reducible refine HI1.out.mono ?_;intro e w5 hpost;unfold InsP at hpost;obtain ⟨A,rfl,hi⟩:=hpost;have HII:=Lib.hid hi;have HE:=Lib.hid (HA4.out w5 A hi);have HS5:=Lib.hid HE.out.1;have x5:=HE.out.1;clear hi)
    | (go_at_call 25;with_reducible refine HI2.out.mono ?_;intro e w5 hpost;unfold InsP at hpost;obtain ⟨A,rfl,hi⟩:=hpost;have HII:=Lib.hid hi;have HE:=Lib.hid (HC4.out w5 A hi);have HS5:=Lib.hid HE.out.1;have x5:=HE.out.1;clear hi)
    | (go_at_call 16;with_reducible refine HE.out.2.1.mono ?_;intro e w6 hpost;unfold WrP at hpost;obtain ⟨rfl,hp⟩:=hpost;have HP:=Lib.hid (wr_end1 (er:=0) (was:=true) HII.out hp);have HS5:=Lib.hid (wr_s1 HX4.out HXl4.out HZ4.out (insf1 HII.out).1 hp);have HS6:=Lib.hid (HP.out.sx HX4.out HXl4.out HZ4.out);clear hp x5)
    | (go_at_call 16;with_reducible refine HE.out.2.2.mono ?_;intro e w6 hpost;unfold WrP at hpost;obtain ⟨rfl,hp⟩:=hpost;have HP:=Lib.hid (wr_end2 (er:=0) (was:=true) HL4.out HBw4.out HII.out hp);have HS5:=Lib.hid (wr_s1 HX4.out HXl4.out HZ4.out (insf2 HII.out).1 hp);have HS6:=Lib.hid (HP.out.2.sx HX4.out HXl4.out HZ4.out);have hob:=HP.out.1;have o0:=hob.cell (j:=0) rfl;have o1:=hob.cell (j:=1) rfl;have o2:=hob.cell (j:=2) rfl;have of0:=hob.frozen 0;have of1:=hob.frozen 1;have of2:=hob.frozen 2;have ol:=hob.lt;clear hp x5 hob)
    | (go_at_call 16;with_reducible refine HE.out.2.mono ?_;intro e w6 hpost;unfold WrP at hpost;obtain ⟨rfl,hp⟩:=hpost;have HP:=Lib.hid (wr_end3 (er:=0) (was:=true) HL4.out HBw4.out HII.out hp);have HS5:=Lib.hid (wr_s1 HX4.out HXl4.out HZ4.out (insf3 HII.out).1 hp);have HS6:=Lib.hid (HP.out.2.sx HX4.out HXl4.out HZ4.out);have hob:=HP.out.1;have o0:=hob.cell (j:=0) rfl;have o1:=hob.cell (j:=1) rfl;have o2:=hob.cell (j:=2) rfl;have of0:=hob.frozen 0;have of1:=hob.frozen 1;have of2:=hob.frozen 2;have ol:=hob.lt;clear hp x5 hob))
  all_goals
   go_wp2_with fail
   go_meet
  ·exact ⟨_,rfl,rfl,Lib.hid HP.out⟩
  ·exact ⟨_,rfl,rfl,Lib.hid HP.out.2⟩
  ·exact ⟨_,rfl,rfl,Lib.hid HP.out.2⟩
 case rest =>
 obtain ⟨w7,hw7⟩ : ∃ w7,w7 = wc:=⟨_,rfl⟩
 subst hw7
 obtain ⟨y4,rfl,rfl,HY4⟩:=hcut
 obtain ⟨Z5,S5,T5,hyz5⟩:=HY4.out.side HS4.out
 clear HW4 HA4 HC4 HI1 HI2 x1 xl
 have x1:=S5.row.cell (j:=1) (u:=.pointer (some ⟨s,0,none⟩)) rfl
 have xl:=S5.row.lt
 have HB5:=Lib.hid (HB4.out.trans (T5.down HS4.out.sh.far HBw4.out))
 have HT5:=Lib.hid T5
 have HR4:=Lib.hid HY4.out.row
 have HRz4:=Lib.hid hyz5
 clear T5 hyz5
 have hr2:=((HR2.out.keep (HT4.out.block _ HR2.out.lt HRz2.out)).keep (HT5.out.block _ (Nat.lt_of_lt_of_le HR2.out.lt HT4.out.size) (fun hz=>by
  rcases HT4.out.foot _ hz with h | h
  ·exact HRz2.out h
  ·have:=HR2.out.lt
   omega)))
 have hr3:=HR3.out.keep (HT5.out.block _ HR3.out.lt HRz3.out)
 have hr4:=HR4.out
 have hbk : Below w7.heap.size w7 (w7.alloc (.cells #[.int .i64 5,.int .i64 6] 3)):=(Below.refl _ _).alloc (Nat.le_refl _) _
 have hask : Calls Tryz.prog 31 #[.pointer (some ⟨s,0,none⟩),.slice (some ⟨w7.heap.size,0,none⟩) 2 2,.int .i64 1,.int .i64 9] (w7.alloc (.cells #[.int .i64 5,.int .i64 6] 3)) (TopPost aK2.T [5,6] 1 9 (w7.alloc (.cells #[.int .i64 5,.int .i64 6] 3))):=by
  have hsh:=S5.sh.below hbk
  obtain ⟨Fd,Gd,Fk,Ft,lp,g,t,p,st,su,h,e⟩:=hsh
  exact ask_ok h rfl (kk:=1) (n:=2) (c:=2) (news_int w7 [5,6] (by simp)) (by simp) (by unfold maxLen;omega) 9 (by decide +kernel) (by omega) (by omega)
 have HASK:=Lib.hid hask
 have HRR:=Lib.hid (And.intro hr2 (And.intro hr3 hr4))
 have HS5:=Lib.hid S5
 have HBK:=Lib.hid hbk
 clear hr2 hr3 hr4 hbk hask S5 HR2 HR3 HR4 HRz2 HRz3 HRz4 HT3 HT4 HT5
 go_wp2_with fail
 refine HASK.out.mono ?_
 rintro e w8 ⟨A8,m8,rfl,hR8,hm8,hb8⟩
 rw [aK2_top] at hR8
 have hb78 : Below w7.heap.size w7 w8:=HBK.out.trans (hb8.mono HBK.out.size)
 have hst : Calls Tryz.prog 17 #[.pointer (some ⟨s,0,none⟩)] w8 fun e w'=>e = .returned (.tuple #[.int .i64 2,.int .i64 1,.int .i64 2,.int .i64 0]) /\ ∃ q,w' = w8.drewN q:=by
  have hsh:=HS5.out.sh.below hb78
  obtain ⟨Fd,Gd,Fk,Ft,lp,g,t,p,st,su,h,e⟩:=hsh
  have:=stands_any h
  rw [aK2_stand] at this
  exact this
 have x1:=sx_below x1 xl hb78
 have HST:=Lib.hid hst
 have HR8:=Lib.hid hR8
 have HM8:=Lib.hid hm8
 have HB8:=Lib.hid hb78
 clear hst hR8 hm8 hb8 hb78 xl HASK
 have xl:=Nat.lt_of_lt_of_le HS5.out.row.lt HB8.out.size
 go_wp2_with fail
 refine HST.out.mono ?_
 rintro e w9 ⟨rfl,q9,rfl⟩
 have hb9 : Below w8.heap.size w8 (w8.drewN q9):=below_drewN (Below.refl _ _) q9
 have r2:=HRR.out.1.keep ((HB8.out.trans (hb9.mono HB8.out.size)).block _ HRR.out.1.lt)
 have r3:=HRR.out.2.1.keep ((HB8.out.trans (hb9.mono HB8.out.size)).block _ HRR.out.2.1.lt)
 have r4:=HRR.out.2.2.keep ((HB8.out.trans (hb9.mono HB8.out.size)).block _ HRR.out.2.2.lt)
 have a1:=r2.cell (j:=1) (u:=.bool false) rfl
 have b1:=r3.cell (j:=1) (u:=.bool false) rfl
 have c1:=r4.cell (j:=1) (u:=.bool true) rfl
 have al:=r2.lt
 have bl:=r3.lt
 have cl:=r4.lt
 have hRd:=HR8.out.below hb9
 obtain ⟨w9,hw9⟩ : ∃ w9,w9 = w8.drewN q9:=⟨_,rfl⟩
 rw [<- hw9] at a1 b1 c1 al bl cl hRd hb9
 have HSM:=Lib.hid (vsame_any A8 (some ⟨w9.heap.size,0,none⟩) m8 1 m8 1 w9.heap.size (w9.heap.size + 1) [(7,1)] [(7,1)] (w9.alloc (.cells #[.int .i64 7,.int .i64 1] 91)) ((hRd.more hb9.size).alloc (Nat.le_refl _) _) (news_hit w9 [(7,1)] (by simp)) (by have:=HM8.out;unfold maxLen;omega) (by unfold maxLen;omega))
 rw [decide_eq_true rfl] at HSM
 have HB9:=Lib.hid (HB8.out.trans (hb9.mono HB8.out.size))
 have HDR:=Lib.hid hw9
 clear hRd r2 r3 r4 hb9
 rw [<- hw9]
 clear hw9
 go_wp2_with fail
 refine HSM.out.mono ?_
 rintro e w10 ⟨rfl,q10,rfl⟩
 go_wp2_with fail
 go_ret
 refine ⟨rfl,?_⟩
 have hBw7 : B <= w7.heap.size:=HS5.out.sh.tabs.1.le
 have h1:=HB5.out.trans (HB9.out.mono hBw7)
 have h2:=h1.trans (((Below.refl _ w9).alloc (Nat.le_refl _) (.cells #[.int .i64 7,.int .i64 1] 91)).mono (Nat.le_trans hBw7 HB9.out.size))
 exact below_drewN h2 _
end
end Go.Proofs.YtegjjhjgfkcbhaaGreatDoor
