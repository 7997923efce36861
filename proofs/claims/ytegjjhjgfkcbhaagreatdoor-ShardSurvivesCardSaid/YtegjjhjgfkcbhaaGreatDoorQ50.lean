/- STabR STabF SQ SQW SQR SQG SQS SDocA SDocB SDocD SQI SQD SQB SDel SRef SWx SQV SSide SHp. Conditions: as each part says. -/
import Derived.Test.YtegjjhjgfkcbhaaGreatDoorQ07
import Derived.Laws.ResultCell
import Derived.Test.YtegjjhjgfkcbhaaGreatDoorQ44
import Derived.RegionTactic
import Derived.Deep.RegionHeld3
import Derived.Test.YtegjjhjgfkcbhaaGreatDoorQ48
import Derived.Test.YtegjjhjgfkcbhaaGreatDoorQ31
import Derived.Test.YtegjjhjgfkcbhaaGreatDoorQ43
import Derived.Test.YtegjjhjgfkcbhaaGreatDoorQ49
set_option linter.unusedVariables false
set_option linter.unusedSimpArgs false
set_option maxRecDepth 100000
set_option maxHeartbeats 16000000
namespace Go.Proofs.YtegjjhjgfkcbhaaGreatDoor
namespace Be
section
open Go Go.RowKit
theorem may_any (c n : Int) (w : World) : Calls Tryz.prog 111 #[.int .i64 c,.int .i64 n] w fun e w'=>e = .returned (.bool (mayB c n)) /\ w = w':=by
 go_enter Tryz.func111,Tryz.ntmps111
 go_wp2
 all_goals go_ret
 all_goals exact ⟨ret_b (by unfold mayB cliB seqB;rw [Bool.eq_iff_iff];simp;try omega),rfl⟩
abbrev tabV (q : List E) : Value:=.agg (qc q).toArray
def TabV (w : World) (b : Nat) (q : List E) : Prop:=Row w b 44 (qc q) /\ q.length = 8
theorem TabV.keep {w w' : World} {b : Nat} {q : List E} (h : TabV w b q) (e : w'.heap[b]? = w.heap[b]?) : TabV w' b q:=⟨h.1.keep e,h.2⟩
theorem TabV.al {w : World} {b : Nat} {q : List E} (h : TabV w b q) (o : Obj) : TabV (w.alloc o) b q:=⟨h.1.al o,h.2⟩
theorem TabV.lt {w : World} {b : Nat} {q : List E} (h : TabV w b q) : b < w.heap.size:=h.1.lt
theorem TabV.cell {w : World} {b : Nat} {q : List E} (h : TabV w b q) {k : Nat} (hk : k < 8) : w.cell? ⟨b,k * 3,none⟩ = some (.int .i64 q[k]!.s) /\ w.cell? ⟨b,k * 3 + 1,none⟩ = some (.int .i64 q[k]!.e) /\ w.cell? ⟨b,k * 3 + 2,none⟩ = some (.bool q[k]!.b):=by
 have hl:=h.2
 have g : ∀ j u,j < 3 -> (ecell q[k]!)[j]? = some u -> w.cell? ⟨b,k * 3 + j,none⟩ = some u:=fun j u hj hu=>by
  apply h.1.cell
  rw [qc_at q k (by omega) j hj,hu]
 exact ⟨g 0 _ (by omega) rfl,g 1 _ (by omega) rfl,g 2 _ (by omega) rfl⟩
theorem TabV.new (w : World) (q : List E) (hq : q.length = 8) : TabV (w.alloc (.cells (qc q).toArray 44)) w.heap.size q:=⟨Row.new w _ _,hq⟩
theorem TabV.zero {w : World} {b : Nat} (hb : w.heap.size = b) : TabV (w.alloc (.cells #[.int .i64 0,.int .i64 0,.bool false,.int .i64 0,.int .i64 0,.bool false,.int .i64 0,.int .i64 0,.bool false,.int .i64 0,.int .i64 0,.bool false,.int .i64 0,.int .i64 0,.bool false,.int .i64 0,.int .i64 0,.bool false,.int .i64 0,.int .i64 0,.bool false,.int .i64 0,.int .i64 0,.bool false] 44)) b q0:=by
 subst hb
 exact ⟨Row.new w _ (qc q0),rfl⟩
theorem load_var {w : World} {b : Nat} {q : List E} (h : TabV w b q) : (loadVar 44 ⟨b,0,none⟩).run Tryz.prog w = .ok (tabV q) w:=by
 have hl : (qc q).length = 24:=by rw [qc_len,h.2]
 exact run_loadVar_mid w b 0 44 (qc q) _ (fun j v hv=>by rw [Nat.zero_add];exact h.1.cell hv) Tryz.underlying44 rfl (by rw [hl];kernel_rfl)
section
variable {ops : Array Oper} {rest : List Oper} {o : Oper} {a : Act} {Q : Exit -> Act -> World -> Prop} {W : World}
theorem ld_tab {b : Nat} {q : List E} (hR : TabV W b q) (hgd : o.guard = none) (x : Operand) (ho : o.op = .load 44 x) (hx : a.eval x = .pointer (some ⟨b,0,none⟩))
  (h : wpList Tryz.prog ops Q rest (a.put o.dst (tabV q)) W) : wpList Tryz.prog ops Q (o :: rest) a W:=by
 have hl : (qc q).length = 24:=by rw [qc_len,hR.2]
 exact wpList_load_mid hgd 44 x ho b 0 hx (qc q) _ (fun j v hv=>by rw [Nat.zero_add];exact hR.1.cell hv) Tryz.underlying44 rfl (by rw [hl];kernel_rfl) h
theorem st_tab {b : Nat} {q q' : List E} (hR : TabV W b q) (hq' : q'.length = 8) (hgd : o.guard = none) (x y : Operand) (ho : o.op = .store 44 x y) (hx : a.eval x = .pointer (some ⟨b,0,none⟩)) (hy : a.eval y = tabV q')
  (h : ∀ W',TabV W' b q' -> W'.heap.size = W.heap.size -> W.grownBy W' (some b) -> wpList Tryz.prog ops Q rest (a.put o.dst undef) W') : wpList Tryz.prog ops Q (o :: rest) a W:=by
 have hl : (qc q).length = 24:=by rw [qc_len,hR.2]
 have hl' : (qc q').length = 24:=by rw [qc_len,hq']
 refine wpList_plain hgd fun K hK=>?_
 have hst:=run_storeVar_row (P:=Tryz.prog) W b 44 44 (qc q).toArray (qc q').toArray hR.1 (by simp only [List.size_toArray,hl'];kernel_rfl) (by simp [hl,hl']) (all_oneCell_toArray (qc_one q'))
 obtain ⟨f1,f2,f3⟩:=setRow_facts hR.1 (qc q')
 unfold Oper.wp execOp
 simp only [ho,hx,hy,Instr.storeAt,Instr.sureAddr,Sem.run_bind,Sem.run_pure,Result.andThen_ok,hst]
 exact hK _ _ (h _ ⟨f1,hq'⟩ f2 f3)
theorem st_ent {b k : Nat} {q : List E} (x : E) (hR : TabV W b q) (hk : k < 8) (hgd : o.guard = none) (X Y : Operand) (ho : o.op = .store 42 X Y) (hx : a.eval X = .pointer (some ⟨b,k * 3,none⟩)) (hy : a.eval Y = .agg #[.int .i64 x.s,.int .i64 x.e,.bool x.b])
  (h : ∀ W',TabV W' b (q.set k x) -> W'.heap.size = W.heap.size -> W.grownBy W' (some b) -> wpList Tryz.prog ops Q rest (a.put o.dst undef) W') : wpList Tryz.prog ops Q (o :: rest) a W:=by
 obtain ⟨c1,c2,c3⟩:=hR.cell hk
 have hth : W.there b (k * 3) 3:=fun j hj=>by
  refine ⟨?_,hR.1.frozen _⟩
  rcases j with _ | _ | _ | j
  ·rw [show k * 3 + 0 = k * 3 from rfl,c1];rfl
  ·rw [show k * 3 + (0 + 1) = k * 3 + 1 from rfl,c2];rfl
  ·rw [show k * 3 + (0 + 1 + 1) = k * 3 + 2 from rfl,c3];rfl
  ·omega
 refine wpList_store_mid hgd 42 X Y ho b (k * 3) #[.int .i64 x.s,.int .i64 x.e,.bool x.b] hx hy hth (by kernel_rfl) (by kernel_rfl) (h _ ?_ ?_ ?_)
 ·have h3:=((hR.1.set (k * 3) (.int .i64 x.s)).set (k * 3 + 1) (.int .i64 x.e)).set (k * 3 + 2) (.bool x.b)
  rw [<- qc_set q k (by rw [hR.2];exact hk) x] at h3
  exact ⟨h3,by rw [List.length_set];exact hR.2⟩
 ·show (((W.setCell _ _).setCell _ _).setCell _ _).heap.size = _
  simp
 ·exact grown_setCell (grown_setCell (grown_setCell (grown_refl W _) ⟨b,k * 3,none⟩ rfl (.int .i64 x.s)) ⟨b,k * 3 + 1,none⟩ rfl (.int .i64 x.e)) ⟨b,k * 3 + 1 + 1,none⟩ rfl (.bool x.b)
end
theorem res_tab {fn : Func} {p u : Tmp} (hf : fn.results = #[.cell p 44,.tmp u]) (tmps : Array Value) {w : World} {b : Nat} {q : List E} (h : TabV w b q) (hp : tmps.getD p undef = .pointer (some ⟨b,0,none⟩)) {z : Value} (hz : tmps.getD u undef = z) :
  (results fn tmps).run Tryz.prog w = .ok (.tuple #[tabV q,z]) w:=by
 rw [results_cell_tmp hf,hp,hz]
 simp [asAddr,Result.andThen,load_var h]
theorem rput_bad {w : World} {q : List E} (c n e : Int) (b : Bool) (H : Value) (hq : q.length = 8) (h : (mayB c n && errB e) = false) : Calls Tryz.prog 69 #[tabV q,.int .i64 c,.int .i64 n,.agg #[.int .i64 e,.bool b,H]] w fun en w'=>en = .returned (.tuple #[tabV q,.int .i64 1]) /\ Below w.heap.size w w':=by
 have hm:=Lib.hid (fun w1=>may_any c n w1)
 have HB : ∀ (A B C : Obj),Below w.heap.size w (((w.alloc A).alloc B).alloc C):=fun A B C=>(((Below.refl _ _).alloc (Nat.le_refl _) _).alloc (by simp) _).alloc (by simp;omega) _
 have R1:=Lib.hid ((TabV.new w q hq).al (.cells #[.int .i64 e,.bool b,H] 52))
 unfold tabV
 unfold errB at h
 generalize mayB c n = bc at *
 rcases bc with _ | _
 ·clear h
  go_enter Tryz.func69,Tryz.ntmps69
  go_wp2_with (first | (refine (hm.out _).mono ?_;rintro e w1 ⟨rfl,rfl⟩) | (refine ld_tab (R1.out.al _) rfl _ rfl rfl ?_) | (refine st_tab (TabV.zero (b:=w.heap.size + 1 + 1) (by simp)) hq rfl _ _ rfl rfl rfl ?_;intro W' f1 f2 f3))
  exact bodyPost_ret (res_tab Tryz.results69 _ f1 rfl rfl) rfl ⟨rfl,below_grown_new (HB _ _ _) f3 (by omega)⟩
 ·by_cases he : e < 0
  ·clear h
   go_enter Tryz.func69,Tryz.ntmps69
   go_wp2_with (first | (refine (hm.out _).mono ?_;rintro e w1 ⟨rfl,rfl⟩) | (refine ld_tab (R1.out.al _) rfl _ rfl rfl ?_) | (refine st_tab (TabV.zero (b:=w.heap.size + 1 + 1) (by simp)) hq rfl _ _ rfl rfl rfl ?_;intro W' f1 f2 f3))
   exact bodyPost_ret (res_tab Tryz.results69 _ f1 rfl rfl) rfl ⟨rfl,below_grown_new (HB _ _ _) f3 (by omega)⟩
  ·have he2 : 255 < e:=by simp at h;omega
   clear h
   go_enter Tryz.func69,Tryz.ntmps69
   go_wp2_with (first | (refine (hm.out _).mono ?_;rintro e w1 ⟨rfl,rfl⟩) | (refine ld_tab (R1.out.al _) rfl _ rfl rfl ?_) | (refine st_tab (TabV.zero (b:=w.heap.size + 1 + 1) (by simp)) hq rfl _ _ rfl rfl rfl ?_;intro W' f1 f2 f3))
   exact bodyPost_ret (res_tab Tryz.results69 _ f1 rfl rfl) rfl ⟨rfl,below_grown_new (HB _ _ _) f3 (by omega)⟩
theorem rput_any {w : World} {q : List E} (hq : q.length = 8) (c n e : Int) (b : Bool) (H : Value) : Calls Tryz.prog 69 #[tabV q,.int .i64 c,.int .i64 n,.agg #[.int .i64 e,.bool b,H]] w fun en w'=>en = .returned (.tuple #[tabV (putM q c n e b).1,.int .i64 (putM q c n e b).2]) /\ Below w.heap.size w w':=by
 unfold putM
 by_cases hm0 : (mayB c n && errB e) = true
 ·rw [if_pos hm0]
  simp only [Bool.and_eq_true] at hm0
  obtain ⟨hmy,hme⟩:=hm0
  have hm:=Lib.hid (fun w1=>may_any c n w1)
  rw [hmy] at hm
  have HB : ∀ (A B C : Obj),Below w.heap.size w (((w.alloc A).alloc B).alloc C):=fun A B C=>(((Below.refl _ _).alloc (Nat.le_refl _) _).alloc (by simp) _).alloc (by simp;omega) _
  obtain ⟨k,rfl,hk⟩:=cli_nat (by unfold mayB at hmy;simp only [Bool.and_eq_true] at hmy;exact hmy.1 : cliB c = true)
  rw [show ((k : Int)).toNat = k from rfl]
  have he1 : 0 <= e:=by unfold errB at hme;simp at hme;omega
  have he2 : e <= 255:=by unfold errB at hme;simp at hme;omega
  have R1:=(TabV.new w q hq).al (.cells #[.int .i64 e,.bool b,H] 52)
  have R2 : TabV (((w.alloc (.cells (qc q).toArray 44)).alloc (.cells #[.int .i64 e,.bool b,H] 52)).alloc (.cells #[.int .i64 0,.int .i64 0,.bool false,.int .i64 0,.int .i64 0,.bool false,.int .i64 0,.int .i64 0,.bool false,.int .i64 0,.int .i64 0,.bool false,.int .i64 0,.int .i64 0,.bool false,.int .i64 0,.int .i64 0,.bool false,.int .i64 0,.int .i64 0,.bool false,.int .i64 0,.int .i64 0,.bool false] 44)) w.heap.size q:=R1.al _
  obtain ⟨c1,c2,c3⟩:=R2.cell hk
  have hfz:=fun j=>R2.1.frozen j
  have HR:=Lib.hid R1
  have HR2:=Lib.hid R2
  have hk2 : (k : Int) < 8:=by omega
  clear hmy hme R1 R2
  by_cases h1 : n <= q[k]!.s
  ·rw [if_pos h1]
   generalize q[k]! = x at *
   obtain ⟨xs,xe,xb⟩:=x
   simp only at c1 c2 c3 h1
   unfold tabV
   go_enter Tryz.func69,Tryz.ntmps69
   go_wp2_with (first | (refine (hm.out _).mono ?_;rintro e w1 ⟨rfl,rfl⟩) | (refine ld_tab (HR.out.al _) rfl _ rfl rfl ?_) | (refine st_tab (TabV.zero (b:=w.heap.size + 1 + 1) (by simp)) hq rfl _ _ rfl rfl rfl ?_;intro W' f1 f2 f3))
   exact bodyPost_ret (res_tab Tryz.results69 _ f1 rfl rfl) rfl ⟨rfl,below_grown_new (HB _ _ _) f3 (by omega)⟩
  ·rw [if_neg h1]
   generalize hx : q[k]! = x at *
   obtain ⟨xs,xe,xb⟩:=x
   simp only at c1 c2 c3 h1
   have hx:=Lib.hid hx
   have HZ : ∀ W' : World,(((w.alloc (.cells (qc q).toArray 44)).alloc (.cells #[.int .i64 e,.bool b,H] 52)).alloc (.cells #[.int .i64 0,.int .i64 0,.bool false,.int .i64 0,.int .i64 0,.bool false,.int .i64 0,.int .i64 0,.bool false,.int .i64 0,.int .i64 0,.bool false,.int .i64 0,.int .i64 0,.bool false,.int .i64 0,.int .i64 0,.bool false,.int .i64 0,.int .i64 0,.bool false,.int .i64 0,.int .i64 0,.bool false] 44)).grownBy W' (some w.heap.size) -> TabV W' (w.heap.size + 1 + 1) q0:=fun W' g =>
    (TabV.zero (w:=(w.alloc (.cells (qc q).toArray 44)).alloc (.cells #[.int .i64 e,.bool b,H] 52)) (b:=w.heap.size + 1 + 1) (by simp)).keep (grown_keep g (by simp) (by omega))
   unfold tabV
   go_enter Tryz.func69,Tryz.ntmps69
   go_wp2_with (first | (refine (hm.out _).mono ?_;rintro e w1 ⟨rfl,rfl⟩) | (refine st_ent ⟨n,e,b⟩ HR2.out hk rfl _ _ rfl rfl rfl ?_;intro W1 g1 g2 g3) | (refine ld_tab g1 rfl _ rfl rfl ?_) | (refine st_tab (HZ _ g3) g1.2 rfl _ _ rfl rfl rfl ?_;intro W' f1 f2 f3))
   exact bodyPost_ret (res_tab Tryz.results69 _ f1 rfl rfl) rfl ⟨rfl,below_grown_new (below_grown_new (HB _ _ _) g3 (by omega)) f3 (by omega)⟩
 ·have hm0 : (mayB c n && errB e) = false:=by simpa using hm0
  rw [hm0]
  exact rput_bad c n e b H hq hm0
end
end Be
namespace Be
section
open Go Go.RowKit
theorem rfind_any {w : World} {q : List E} (hq : q.length = 8) (c n : Int) : Calls Tryz.prog 66 #[tabV q,.int .i64 c,.int .i64 n] w fun e w'=>e = .returned (.tuple #[repV (findM q c n).1,.int .i64 (findM q c n).2]) /\ Below w.heap.size w w':=by
 have hm:=Lib.hid (fun w1=>may_any c n w1)
 have HB : ∀ (A B : Obj),Below w.heap.size w ((w.alloc A).alloc B):=fun A B=>((Below.refl _ _).alloc (Nat.le_refl _) _).alloc (by simp) _
 have HB3 : ∀ (A B C : Obj),Below w.heap.size w (((w.alloc A).alloc B).alloc C):=fun A B C=>(HB A B).alloc (by simp;omega) _
 have R1:=(TabV.new w q hq).al (.cells #[.int .i64 0,.bool false,.slice none 0 0] 52)
 unfold findM
 by_cases hm0 : mayB c n = true
 ·rw [if_pos hm0]
  obtain ⟨k,rfl,hk⟩:=cli_nat (by unfold mayB at hm0;simp only [Bool.and_eq_true] at hm0;exact hm0.1 : cliB c = true)
  rw [show ((k : Int)).toNat = k from rfl]
  rw [hm0] at hm
  obtain ⟨c1,c2,c3⟩:=R1.cell hk
  have hk2 : (k : Int) < 8:=by omega
  generalize q[k]! = x at *
  obtain ⟨xs,xe,xb⟩:=x
  simp only at c1 c2 c3 ⊢
  unfold tabV
  clear R1 hm0
  by_cases h1 : n < xs
  ·rw [if_pos h1]
   go_enter Tryz.func66,Tryz.ntmps66
   go_wp2_with (first | (refine (hm.out _).mono ?_;rintro e w1 ⟨rfl,rfl⟩))
   refine bodyPost_ret (v:=.tuple #[repV (0,false),.int .i64 90]) (by simp [results,Tryz.results66,go_sem,repV]) rfl ⟨rfl,?_⟩
   exact HB3 _ _ _
  ·rw [if_neg h1]
   by_cases h2 : xs < n
   ·rw [if_pos h2]
    go_enter Tryz.func66,Tryz.ntmps66
    go_wp2_with (first | (refine (hm.out _).mono ?_;rintro e w1 ⟨rfl,rfl⟩))
    refine bodyPost_ret (v:=.tuple #[repV (0,false),.int .i64 3]) (by simp [results,Tryz.results66,go_sem,repV]) rfl ⟨rfl,?_⟩
    exact HB3 _ _ _
   ·rw [if_neg h2]
    go_enter Tryz.func66,Tryz.ntmps66
    go_wp2_with (first | (refine (hm.out _).mono ?_;rintro e w1 ⟨rfl,rfl⟩))
    refine bodyPost_ret (v:=.tuple #[repV (xe,xb),.int .i64 0]) (by simp [results,Tryz.results66,go_sem,repV]) rfl ⟨rfl,?_⟩
    exact HB3 _ _ _
 ·rw [if_neg hm0]
  have hm0 : mayB c n = false:=by simpa using hm0
  rw [hm0] at hm
  unfold tabV
  clear R1
  go_enter Tryz.func66,Tryz.ntmps66
  go_wp2_with (first | (refine (hm.out _).mono ?_;rintro e w1 ⟨rfl,rfl⟩))
  refine bodyPost_ret (v:=.tuple #[repV (0,false),.int .i64 1]) (by simp [results,Tryz.results66,go_sem,repV]) rfl ⟨rfl,?_⟩
  exact HB _ _
end
end Be
section
open Go Go.RowKit
def qV (dm st ep mv vr : Int) (sl : Value) (q : List Be.E) : List Value:=[.int .i64 dm,.int .i64 st,.int .i64 ep,.int .i64 mv,.int .i64 vr,.int .i64 dm,sl] ++ Be.qc q
theorem qV_len {dm st ep mv vr : Int} {sl : Value} {q : List Be.E} (hq : q.length = 8) : (qV dm st ep mv vr sl q).length = 31:=by
 unfold qV
 rw [List.length_append,Be.qc_len,hq]
 rfl
theorem qV_one {dm st ep mv vr : Int} {sl : Value} {q : List Be.E} (hs : sl.oneCell' = true) : ∀ v ∈ qV dm st ep mv vr sl q,v.oneCell' = true:=by
 intro v hv
 unfold qV at hv
 rw [List.mem_append] at hv
 rcases hv with hv | hv
 ·simp only [List.mem_cons,List.not_mem_nil,or_false] at hv
  rcases hv with rfl | rfl | rfl | rfl | rfl | rfl | rfl <;> first | rfl | exact hs
 ·exact Be.qc_one q v hv
section
variable {ops : Array Oper} {rest : List Oper} {o : Oper} {a : Act} {Q : Exit -> Act -> World -> Prop} {W : World}
theorem ld_q10 {b : Nat} {xs : List Value} (hR : Row W b 46 xs) (hl : xs.length = 31) (hgd : o.guard = none) (x : Operand) (ho : o.op = .load 46 x) (hx : a.eval x = .pointer (some ⟨b,0,none⟩))
  (h : wpList Tryz.prog ops Q rest (a.put o.dst (.agg xs.toArray)) W) : wpList Tryz.prog ops Q (o :: rest) a W :=
 wpList_load_mid hgd 46 x ho b 0 hx xs _ (fun j v hv=>by rw [Nat.zero_add];exact hR.cell hv) Tryz.underlying46 rfl (by rw [hl];exact q10_size) h
end
theorem res_q10e {fn : Func} {p u : Tmp} (hf : fn.results = #[.cell p 46,.tmp u]) (tmps : Array Value) {w : World} {b : Nat} {xs : List Value} (h : Row w b 46 xs) (hl : xs.length = 31) (hp : tmps.getD p undef = .pointer (some ⟨b,0,none⟩)) {z : Value} (hz : tmps.getD u undef = z) :
  (results fn tmps).run Tryz.prog w = .ok (.tuple #[.agg xs.toArray,z]) w:=by
 have:=run_loadVar_mid w b 0 46 xs _ (fun j v hv=>by rw [Nat.zero_add];exact h.cell hv) Tryz.underlying46 rfl (by rw [hl];exact q10_size)
 rw [results_cell_tmp hf,hp,hz]
 simp [asAddr,Result.andThen,this]
theorem rnum_any (n : Int) (w : World) : Calls Tryz.prog 64 #[.int .i64 n] w fun e w'=>e = .returned (.bool (decide (1 <= n /\ n <= 1099511627776))) /\ w = w':=by
 by_cases h1 : 1 <= n
 ·by_cases h2 : n <= 1099511627776
  ·have e : decide (1 <= n /\ n <= 1099511627776) = true:=decide_eq_true ⟨h1,h2⟩
   rw [e]
   clear e
   go_enter Tryz.func64,Tryz.ntmps64
   go_wp2_with fail
   go_ret
   exact ⟨rfl,rfl⟩
  ·have e : decide (1 <= n /\ n <= 1099511627776) = false:=decide_eq_false fun h=>h2 h.2
   rw [e]
   clear e
   go_enter Tryz.func64,Tryz.ntmps64
   go_wp2_with fail
   go_ret
   exact ⟨rfl,rfl⟩
 ·have e : decide (1 <= n /\ n <= 1099511627776) = false:=decide_eq_false fun h=>h1 h.1
  rw [e]
  clear e
  go_enter Tryz.func64,Tryz.ntmps64
  go_wp2_with fail
  go_ret
  exact ⟨rfl,rfl⟩
theorem rstands_any (dm st ep mv vr : Int) (sl : Value) (q : List Be.E) (hq : q.length = 8) (hs : sl.oneCell' = true) (st' ep' mv' : Int) (h0 : st' ≠ 0) (w : World) :
  Calls Tryz.prog 65 #[.agg (qV dm st ep mv vr sl q).toArray,.int .i64 st',.int .i64 ep',.int .i64 mv'] w fun e w'=>e = .returned (.agg (qV dm st' ep' mv' vr sl q).toArray) /\ Below w.heap.size w w':=by
 have hyo : ∀ v ∈ qV dm st' ep' mv' vr sl q,v.oneCell' = true:=qV_one hs
 have hyl : (qV dm st' ep' mv' vr sl q).length = 31:=qV_len hq
 have hv1:=(Row.new w 46 (qV dm st' ep' mv' vr sl q)).keep (heap_alloc_lt (w.alloc (.cells (qV dm st' ep' mv' vr sl q).toArray 46)) (.cells (qNew 0).toArray 46) (by simp))
 have hv2:=Row.new (w.alloc (.cells (qV dm st' ep' mv' vr sl q).toArray 46)) 46 (qNew 0)
 rw [World.size_alloc] at hv2
 have hb1 : Below w.heap.size w ((w.alloc (.cells (qV dm st' ep' mv' vr sl q).toArray 46)).alloc (.cells (qNew 0).toArray 46)):=((Below.refl _ _).alloc (Nat.le_refl _) _).alloc (by simp) _
 have H1:=Lib.hid hv1
 have H2:=Lib.hid hv2
 have HB:=Lib.hid hb1
 have HYO:=Lib.hid hyo
 have HYL:=Lib.hid hyl
 have x1 : (qV dm st ep mv vr sl q)[1]? = some (.int .i64 st):=rfl
 have x2 : (qV dm st ep mv vr sl q)[2]? = some (.int .i64 ep):=rfl
 have x3 : (qV dm st ep mv vr sl q)[3]? = some (.int .i64 mv):=rfl
 have hxl : (qV dm st ep mv vr sl q).length = 31:=qV_len hq
 clear hv1 hv2 hb1 hyo hyl
 go_enter Tryz.func65,Tryz.ntmps65
 go_wp2_with (first | (refine ld_q10 (xs:=qV dm st' ep' mv' vr sl q) H1.out HYL.out rfl _ rfl rfl ?_) | (refine st_row (xs:=qNew 0) (ys:=qV dm st' ep' mv' vr sl q) H2.out HYL.out (by rw [HYL.out];exact q10_size) HYO.out rfl _ _ rfl rfl rfl ?_;intro W' hr' hs' hg'))
 refine bodyPost_ret (res_q10 Tryz.results65 _ hr' HYL.out rfl) rfl ⟨rfl,HB.out.grown hg' HB.out.size (fun k e=>by cases e;exact Nat.le_add_right _ _)⟩
theorem two_rows (w : World) (xs ys : List Value) (hx : xs.length = 31) : Row ((w.alloc (.cells xs.toArray 46)).alloc (.cells ys.toArray 46)) w.heap.size 46 xs /\ Row ((w.alloc (.cells xs.toArray 46)).alloc (.cells ys.toArray 46)) (w.heap.size + 1) 46 ys /\ Below w.heap.size w ((w.alloc (.cells xs.toArray 46)).alloc (.cells ys.toArray 46)):=by
 refine ⟨(Row.new w 46 xs).keep (heap_alloc_lt _ _ (by simp)),?_,((Below.refl _ _).alloc (Nat.le_refl _) _).alloc (by simp) _⟩
 have:=Row.new (w.alloc (.cells xs.toArray 46)) 46 ys
 rw [World.size_alloc] at this
 exact this
theorem rfound_ok (dm ep mv vr n : Int) (sl : Value) (q : List Be.E) (hq : q.length = 8) (hs : sl.oneCell' = true) (h1 : 1 <= n) (h2 : n <= 1099511627776) (h3 : ep < n) (w : World) :
  Calls Tryz.prog 34 #[.agg (qV dm 0 ep mv vr sl q).toArray,.int .i64 n] w fun e w'=>e = .returned (.tuple #[.agg (qV dm 2 n mv vr sl q).toArray,.int .i64 0]) /\ Below w.heap.size w w':=by
 obtain ⟨hr1,hr2,hb⟩:=two_rows w (qV dm 0 ep mv vr sl q) (qNew 0) (qV_len hq)
 have HYL:=Lib.hid (show (qV dm 2 n mv vr sl q).length = 31 from qV_len hq)
 have HYO:=Lib.hid (show ∀ v ∈ qV dm 2 n mv vr sl q,v.oneCell' = true from qV_one hs)
 have hxl : (qV dm 0 ep mv vr sl q).length = 31:=qV_len hq
 have HXL:=Lib.hid hxl
 have x1 : ∀ h,(qV dm 0 ep mv vr sl q)[1]'h = (.int .i64 0):=fun _=>rfl
 have x2 : ∀ h,(qV dm 0 ep mv vr sl q)[2]'h = (.int .i64 ep):=fun _=>rfl
 have x3 : ∀ h,(qV dm 0 ep mv vr sl q)[3]'h = (.int .i64 mv):=fun _=>rfl
 have en : decide (1 <= n /\ n <= 1099511627776) = true:=decide_eq_true ⟨h1,h2⟩
 have HN:=Lib.hid (fun w1=>rnum_any n w1)
 rw [en] at HN
 have HST:=Lib.hid (fun w1=>rstands_any dm 0 ep mv vr sl q hq hs 2 n mv (by decide) w1)
 have H1:=Lib.hid hr1
 have H2:=Lib.hid hr2
 have HB:=Lib.hid hb
 clear hr1 hr2 hb en
 go_enter Tryz.func34,Tryz.ntmps34
 go_wp2_with (first | (refine (HN.out _).mono ?_;rintro e w1 ⟨rfl,rfl⟩) | (refine ld_q10 H1.out HXL.out rfl _ rfl rfl ?_) | fail)
 refine (HST.out _).mono ?_
 rintro e w2 ⟨rfl,hb2⟩
 have H3:=Lib.hid (H2.out.keep (hb2.block _ H2.out.lt))
 have HB2:=Lib.hid (HB.out.trans (hb2.mono HB.out.size))
 clear hb2
 go_wp2_with (first | (refine st_row (xs:=qNew 0) (ys:=qV dm 2 n mv vr sl q) H3.out HYL.out (by rw [HYL.out];exact q10_size) HYO.out rfl _ _ rfl rfl rfl ?_;intro W' hr' hs' hg'))
 refine bodyPost_ret (res_q10e Tryz.results34 _ hr' HYL.out rfl rfl) rfl ⟨rfl,HB2.out.grown hg' HB2.out.size (fun k e=>by cases e;exact Nat.le_add_right _ _)⟩
end
section
open Go Go.RowKit
theorem qV_tab {dm st ep mv vr : Int} {sl : Value} {q : List Be.E} (j : Nat) (v : Value) (hv : (Be.qc q)[j]? = some v) : (qV dm st ep mv vr sl q)[7 + j]? = some v:=by
 unfold qV
 rw [List.getElem?_append_right (by simp)]
 simpa using hv
section
variable {ops : Array Oper} {rest : List Oper} {o : Oper} {a : Act} {Q : Exit -> Act -> World -> Prop} {W : World}
theorem ld_qtab {b : Nat} {dm st ep mv vr : Int} {sl : Value} {q : List Be.E} (hR : Row W b 46 (qV dm st ep mv vr sl q)) (hq : q.length = 8) (hgd : o.guard = none) (x : Operand) (ho : o.op = .load 44 x) (hx : a.eval x = .pointer (some ⟨b,7,none⟩))
  (h : wpList Tryz.prog ops Q rest (a.put o.dst (Be.tabV q)) W) : wpList Tryz.prog ops Q (o :: rest) a W:=by
 have hl : (Be.qc q).length = 24:=by rw [Be.qc_len,hq]
 exact wpList_load_mid hgd 44 x ho b 7 hx (Be.qc q) _ (fun j v hv=>hR.cell (qV_tab j v hv)) Tryz.underlying44 rfl (by rw [hl];kernel_rfl) h
end
theorem res_q10w {fn : Func} {p r u : Tmp} (hf : fn.results = #[.cell p 46,.cell r 52,.tmp u]) (tmps : Array Value) {w : World} {b c : Nat} {xs : List Value} (h : Row w b 46 xs) (hl : xs.length = 31) (hp : tmps.getD p undef = .pointer (some ⟨b,0,none⟩)) {e : Int} {bo : Bool} {H : Value} (h2 : Row w c 52 [.int .i64 e,.bool bo,H]) (hr : tmps.getD r undef = .pointer (some ⟨c,0,none⟩)) {z : Value} (hz : tmps.getD u undef = z) :
  (results fn tmps).run Tryz.prog w = .ok (.tuple #[.agg xs.toArray,.agg #[.int .i64 e,.bool bo,H],z]) w:=by
 have a1:=run_loadVar_mid w b 0 46 xs _ (fun j v hv=>by rw [Nat.zero_add];exact h.cell hv) Tryz.underlying46 rfl (by rw [hl];exact q10_size)
 have a2:=run_loadVar_mid w c 0 52 [.int .i64 e,.bool bo,H] _ (fun j v hv=>by rw [Nat.zero_add];exact h2.cell hv) Tryz.underlying52 rfl (by kernel_rfl)
 have hp' : tmps[p]?.getD undef = .pointer (some ⟨b,0,none⟩):=by simpa using hp
 have hr' : tmps[r]?.getD undef = .pointer (some ⟨c,0,none⟩):=by simpa using hr
 have hz' : tmps[u]?.getD undef = z:=by simpa using hz
 simp only [results,hf]
 simp [Sem.run_bind,Result.andThen,hp',hr',hz',asAddr,a1,a2]
end
section
open Go Go.RowKit
structure QW (w W : World) (xs : List Value) (kd x K : Int) (A : Option Addr) (n c : Nat) : Prop where
 s : Row W w.heap.size 46 xs
 op : Row W (w.heap.size + 1) 29 [.int .i64 kd,.int .i64 x,.slice A n c,.int .i64 K]
 r8 : Row W (w.heap.size + 1 + 1) 46 (qNew 0)
 r9 : Row W (w.heap.size + 1 + 1 + 1) 52 [.int .i64 0,.bool false,.slice none 0 0]
 bel : Below w.heap.size w W
theorem QW.on {w W W' : World} {xs : List Value} {kd x K : Int} {A : Option Addr} {n c : Nat} (h : QW w W xs kd x K A n c) (hb : Below W.heap.size W W') : QW w W' xs kd x K A n c :=
 ⟨h.s.keep (hb.block _ h.s.lt),h.op.keep (hb.block _ h.op.lt),h.r8.keep (hb.block _ h.r8.lt),h.r9.keep (hb.block _ h.r9.lt),h.bel.trans (hb.mono h.bel.size)⟩
theorem qw_new (w : World) (xs : List Value) (kd x K : Int) (A : Option Addr) (n c : Nat) : QW w ((((w.alloc (.cells xs.toArray 46)).alloc (.cells #[.int .i64 kd,.int .i64 x,.slice A n c,.int .i64 K] 29)).alloc (.cells (qNew 0).toArray 46)).alloc (.cells #[.int .i64 0,.bool false,.slice none 0 0] 52)) xs kd x K A n c:=by
 have r1:=Row.new w 46 xs
 have r2:=Row.new (w.alloc (.cells xs.toArray 46)) 29 [.int .i64 kd,.int .i64 x,.slice A n c,.int .i64 K]
 have r3:=Row.new ((w.alloc (.cells xs.toArray 46)).alloc (.cells #[.int .i64 kd,.int .i64 x,.slice A n c,.int .i64 K] 29)) 46 (qNew 0)
 have r4:=Row.new (((w.alloc (.cells xs.toArray 46)).alloc (.cells #[.int .i64 kd,.int .i64 x,.slice A n c,.int .i64 K] 29)).alloc (.cells (qNew 0).toArray 46)) 52 [.int .i64 0,.bool false,.slice none 0 0]
 simp only [World.size_alloc] at r2 r3 r4
 refine ⟨((r1.keep (heap_alloc_lt _ _ (by simp))).keep (heap_alloc_lt _ _ (by simp <;> omega))).keep (heap_alloc_lt _ _ (by simp <;> omega)),(r2.keep (heap_alloc_lt _ _ (by simp))).keep (heap_alloc_lt _ _ (by simp <;> omega)),r3.keep (heap_alloc_lt _ _ (by simp)),r4,((((Below.refl _ _).alloc (Nat.le_refl _) _).alloc (by simp) _).alloc (by simp <;> omega) _).alloc (by simp <;> omega) _⟩
theorem rwrite_kind (dm st ep mv vr cl sq kd x K : Int) (sl : Value) (q : List Be.E) (A : Option Addr) (n c : Nat) (hq : q.length = 8) (hs : sl.oneCell' = true) (k1 : (kd != 1) = true) (k2 : (kd != 2) = true) (w : World) :
  Calls Tryz.prog 35 #[.agg (qV dm st ep mv vr sl q).toArray,.int .i64 cl,.int .i64 sq,.agg #[.int .i64 kd,.int .i64 x,.slice A n c,.int .i64 K]] w fun e w'=>e = .returned (.tuple #[.agg (qV dm st ep mv vr sl q).toArray,.agg #[.int .i64 0,.bool false,.slice none 0 0],.int .i64 1]) /\ Below w.heap.size w w':=by
 have HW:=Lib.hid (qw_new w (qV dm st ep mv vr sl q) kd x K A n c)
 have HYL:=Lib.hid (show (qV dm st ep mv vr sl q).length = 31 from qV_len hq)
 have HYO:=Lib.hid (show ∀ v ∈ qV dm st ep mv vr sl q,v.oneCell' = true from qV_one hs)
 have HQ:=Lib.hid hq
 have HFi:=Lib.hid (fun w1=>Be.rfind_any (w:=w1) hq cl sq)
 have k3 : (kd != 1 && kd != 2) = true:=by rw [k1,k2];rfl
 obtain ⟨rp,er,hre⟩ : ∃ rp er,Be.findM q cl sq = (rp,er):=⟨_,_,rfl⟩
 rw [hre] at HFi
 obtain ⟨rp1,rp2⟩:=rp
 clear hq hs
 go_enter Tryz.func35,Tryz.ntmps35
 go_wp2_with (first | (refine ld_qtab HW.out.s HQ.out rfl _ rfl rfl ?_) | fail)
 refine (HFi.out _).mono ?_
 rintro e w2 ⟨rfl,hb2⟩
 have HW2:=Lib.hid (HW.out.on hb2)
 clear hb2
 have o0:=HW2.out.op.cell (j:=0) (u:=.int .i64 kd) rfl
 have ol:=HW2.out.op.lt
 have sl2:=HW2.out.s.lt
 have s1 : w2.cell? ⟨w.heap.size,1,none⟩ = some (.int .i64 st):=HW2.out.s.cell rfl
 unfold Be.repV
 go_wp2_with (first | (refine ld_q10 (HW2.out.on ((Below.refl _ _).alloc (Nat.le_refl _) _)).s HYL.out rfl _ rfl rfl ?_) | (refine st_row (xs:=qNew 0) (ys:=qV dm st ep mv vr sl q) (HW2.out.on ((Below.refl _ _).alloc (Nat.le_refl _) _)).r8 HYL.out (by rw [HYL.out];exact q10_size) HYO.out rfl _ _ rfl rfl rfl ?_;intro W' hr' hs' hg';have Y9:=row_grown (HW2.out.on ((Below.refl _ _).alloc (Nat.le_refl _) _)).r9 hg' (by omega);have y0:=Y9.cell (j:=0) (u:=.int .i64 0) rfl;have y1:=Y9.cell (j:=1) (u:=.bool false) rfl;have y2:=Y9.cell (j:=2) (u:=.slice none 0 0) rfl;have yl:=Y9.lt;have yz:=fun j=>Y9.frozen j) | fail)
 have hbe : Below w.heap.size w W':=below_grown_new (HW2.out.on ((Below.refl _ _).alloc (Nat.le_refl _) _)).bel hg' (by omega)
 refine bodyPost_ret (res_q10w Tryz.results35 _ (((hr'.keep (heap_set_ne _ _ _ (by simp))).keep (heap_set_ne _ _ _ (by simp))).keep (heap_set_ne _ _ _ (by simp))) HYL.out rfl (((Y9.set 0 (.int .i64 0)).set 1 (.bool false)).set 2 (.slice none 0 0)) rfl rfl) rfl ⟨rfl,((hbe.setCell (by simp <;> omega) _).setCell (by simp <;> omega) _).setCell (by simp <;> omega) _⟩
end
section
open Go Go.RowKit
theorem yields_q10 {o : Oper} {ρ : Operand -> Value} {b : Nat} {xs : List Value} {w : World} (h : Row w b 46 xs) (hl : xs.length = 31) (x : Operand) (ho : o.op = .load 46 x) (hx : ρ x = .pointer (some ⟨b,0,none⟩)) : (execOp ρ o).run Tryz.prog w = .ok (.value (.agg xs.toArray)) w:=by
 have hr:=run_loadVar_mid (P:=Tryz.prog) w b 0 46 xs _ (fun j v hv=>by rw [Nat.zero_add];exact h.cell hv) Tryz.underlying46 rfl (by rw [hl];exact q10_size)
 unfold execOp
 simp only [ho,hx,Instr.loadAt,Instr.sureAddr,Sem.run_bind,Sem.run_pure,Result.andThen_ok,hr]
theorem yields_rep {o : Oper} {ρ : Operand -> Value} {b : Nat} {e : Int} {bo : Bool} {H : Value} {w : World} (h : Row w b 52 [.int .i64 e,.bool bo,H]) (x : Operand) (ho : o.op = .load 52 x) (hx : ρ x = .pointer (some ⟨b,0,none⟩)) : (execOp ρ o).run Tryz.prog w = .ok (.value (.agg #[.int .i64 e,.bool bo,H])) w:=by
 have hr:=run_loadVar_mid (P:=Tryz.prog) w b 0 52 [.int .i64 e,.bool bo,H] _ (fun j v hv=>by rw [Nat.zero_add];exact h.cell hv) Tryz.underlying52 rfl (by kernel_rfl)
 unfold execOp
 simp only [ho,hx,Instr.loadAt,Instr.sureAddr,Sem.run_bind,Sem.run_pure,Result.andThen_ok,hr]
theorem step_st_row {ops : Array Oper} {o : Oper} {a : Act} {K : Act -> World -> Prop} {Q : Exit -> Act -> World -> Prop} {E : Prop} {W : World} {b : Nat} {ty : TypeId} {xs ys : List Value} (hR : Row W b ty xs) (hl : ys.length = xs.length) (hi : (Tryz.prog.info? ty).map (·.size) = some ys.length) (h1 : ∀ v ∈ ys,v.oneCell' = true) (hgd : o.guard = none) (x y : Operand) (ho : o.op = .store ty x y) (hx : a.eval x = .pointer (some ⟨b,0,none⟩)) (hy : a.eval y = .agg ys.toArray)
  (h : ∀ W',Row W' b ty ys -> W'.heap.size = W.heap.size -> W.grownBy W' (some b) -> K (a.put o.dst undef) W') : if Region.wanted o (yielded ops a.tmps) = true then Oper.wp Tryz.prog o a W K Q else E:=by
 have hw : Region.wanted o (yielded ops a.tmps) = true:=by simp [Region.wanted,hgd]
 rw [if_pos hw]
 have hst:=run_storeVar_row (P:=Tryz.prog) W b ty ty xs.toArray ys.toArray hR (by simpa using hi) (by simp [hl]) (all_oneCell_toArray h1)
 obtain ⟨f1,f2,f3⟩:=Be.setRow_facts hR ys
 unfold Oper.wp execOp
 simp only [ho,hx,hy,Instr.storeAt,Instr.sureAddr,Sem.run_bind,Sem.run_pure,Result.andThen_ok,hst]
 exact h _ f1 f2 f3
theorem rwrite_had1 (dm ep mv vr cl sq x K : Int) (sl : Value) (q : List Be.E) (A : Option Addr) (n c : Nat) (hq : q.length = 8) (hs : sl.oneCell' = true) (rp : Int × Bool) (er : Int) (hre : Be.findM q cl sq = (rp,er)) (e1 : (er == 1) = false) (e3 : (er != 3) = true) (w : World) :
  Calls Tryz.prog 35 #[.agg (qV dm 2 ep mv vr sl q).toArray,.int .i64 cl,.int .i64 sq,.agg #[.int .i64 1,.int .i64 x,.slice A n c,.int .i64 K]] w fun e w'=>e = .returned (.tuple #[.agg (qV dm 2 ep mv vr sl q).toArray,.agg #[.int .i64 rp.1,.bool rp.2,.slice none 0 0],.int .i64 er]) /\ Below w.heap.size w w':=by
 have HW:=Lib.hid (qw_new w (qV dm 2 ep mv vr sl q) 1 x K A n c)
 have HYL:=Lib.hid (show (qV dm 2 ep mv vr sl q).length = 31 from qV_len hq)
 have HYO:=Lib.hid (show ∀ v ∈ qV dm 2 ep mv vr sl q,v.oneCell' = true from qV_one hs)
 have HQ:=Lib.hid hq
 have HFi:=Lib.hid (fun w1=>Be.rfind_any (w:=w1) hq cl sq)
 obtain ⟨rp1,rp2⟩:=rp
 rw [hre] at HFi
 clear hq hs
 go_enter Tryz.func35,Tryz.ntmps35
 go_wp2_with (first | (refine ld_qtab HW.out.s HQ.out rfl _ rfl rfl ?_) | fail)
 refine (HFi.out _).mono ?_
 rintro e w2 ⟨rfl,hb2⟩
 have HW2:=Lib.hid (HW.out.on hb2)
 clear hb2
 have o0:=HW2.out.op.cell (j:=0) (u:=.int .i64 1) rfl
 have ol:=HW2.out.op.lt
 have sl2:=HW2.out.s.lt
 have s1 : w2.cell? ⟨w.heap.size,1,none⟩ = some (.int .i64 2):=HW2.out.s.cell rfl
 unfold Be.repV
 go_wp2_with fail
 have HV:=Lib.hid (HW2.out.on ((Below.refl _ _).alloc (Nat.le_refl _) (.cells #[.int .i64 rp1,.bool rp2,.slice none 0 0] 52)))
 have HN:=Lib.hid (Row.new w2 52 [.int .i64 rp1,.bool rp2,.slice none 0 0])
 have hwl:=HW2.out.r9.lt
 refine wp_region_held_drew (S:=(fun w'=>Row w' w.heap.size 46 (qV dm 2 ep mv vr sl q) /\ Row w' w2.heap.size 52 [.int .i64 rp1,.bool rp2,.slice none 0 0])) (by kernel_rfl) ?_ (fun hHeld=>?_)
 ·exact ⟨HV.out.s,HN.out⟩
 refine wpAnyH_take (i:=0) (oi:=⟨_,_,_,_,_,_⟩) (v:=?_) rfl (by kernel_rfl) (by kernel_rfl) (by kernel_rfl) (fun _ _ _ h=>h) (Or.inl ⟨by rfl,?_⟩) (by assumption) ?_
 rotate_left
 ·intro w' hSw;(refine yields_q10 hSw.1 HYL.out (.tmp 4) ?_ ?_) <;> rfl
 try simp only [Act.put,List.setIfInBounds_toArray,List.set_cons_zero,List.set_cons_succ]
 refine wpAnyH_take (i:=1) (oi:=⟨_,_,_,_,_,_⟩) (v:=?_) rfl (by kernel_rfl) (by kernel_rfl) (by kernel_rfl) (fun _ _ _ h=>h) (Or.inl ⟨by rfl,?_⟩) (by assumption) ?_
 rotate_left
 ·intro w' hSw;(refine yields_rep hSw.2 (.tmp 11) ?_ ?_) <;> rfl
 try simp only [Act.put,List.setIfInBounds_toArray,List.set_cons_zero,List.set_cons_succ]
 refine wpAnyH_take (i:=2) (oi:=⟨_,_,_,_,_,_⟩) (v:=?_) rfl (by kernel_rfl) (by kernel_rfl) (by kernel_rfl) (fun _ _ _ h=>h) (Or.inl ⟨by rfl,?_⟩) (by assumption) ?_
 rotate_left
 ·intro w hSw;(try dsimp only at hSw);go_simp <;> with_reducible rfl
 try simp only [Act.put,List.setIfInBounds_toArray,List.set_cons_zero,List.set_cons_succ]
 refine wpAnyH_ready (rs:=[3]) (by kernel_rfl) (by simp) ?_
 refine AllReadyH.cons (o:=⟨_,_,_,_,_,_⟩) rfl (fun K hK=>?_) AllReadyH.nil
 refine step_st_row (xs:=qNew 0) (ys:=qV dm 2 ep mv vr sl q) (by exact HV.out.r8) HYL.out (by rw [HYL.out];exact q10_size) HYO.out rfl _ _ rfl rfl rfl ?_;intro W3 hr3 hs3 hg3;have Y9:=Lib.hid (row_grown (by exact HV.out.r9) hg3 (by omega))
 refine hK.out _ _ ?_ (fun hHeld=>?_)
 ·exact ⟨row_grown (by exact HV.out.s) hg3 (by omega),row_grown (by exact HN.out) hg3 (by omega)⟩
 clear hK K
 try simp only [Act.put,List.setIfInBounds_toArray,List.set_cons_zero,List.set_cons_succ]
 refine wpAnyH_ready (rs:=[4]) (by kernel_rfl) (by simp) ?_
 refine AllReadyH.cons (o:=⟨_,_,_,_,_,_⟩) rfl (fun K hK=>?_) AllReadyH.nil
 refine step_st_row (xs:=[.int .i64 0,.bool false,.slice none 0 0]) (ys:=[.int .i64 rp1,.bool rp2,.slice none 0 0]) Y9.out rfl (by kernel_rfl) (by intro v hv;simp only [List.mem_cons,List.not_mem_nil,or_false] at hv;rcases hv with rfl | rfl | rfl <;> rfl) rfl _ _ rfl rfl rfl ?_;intro W4 hr4 hs4 hg4
 refine hK.out _ _ ?_ (fun hHeld=>?_)
 ·exact ⟨row_grown hHeld.1 hg4 (by omega),row_grown hHeld.2 hg4 (by omega)⟩
 clear hK K
 try simp only [Act.put,List.setIfInBounds_toArray,List.set_cons_zero,List.set_cons_succ]
 refine wpAnyH_ready (rs:=[5]) (by kernel_rfl) (by simp) ?_
 refine AllReadyH.cons (o:=⟨_,_,_,_,_,_⟩) rfl (fun K hK=>?_) AllReadyH.nil
 go_simp
 refine hK.out _ _ ?_ (fun hHeld=>?_)
 ·exact hHeld
 clear hK K
 try simp only [Act.put,List.setIfInBounds_toArray,List.set_cons_zero,List.set_cons_succ]
 refine wpAnyH_done (by kernel_rfl) ?_ _
 go_wp2_with fail
 have hb3 : Below w.heap.size w W3:=below_grown_new (show Below w.heap.size w (World.drew _) from HV.out.bel.drew) hg3 (by omega)
 have hb4 : Below w.heap.size w W4:=below_grown_new hb3 hg4 (by omega)
 refine bodyPost_ret (res_q10w Tryz.results35 _ (row_grown hr3 hg4 (by omega)) HYL.out rfl hr4 rfl rfl) rfl ⟨rfl,hb4⟩
theorem rwrite_had2 (dm ep mv vr cl sq x K : Int) (sl : Value) (q : List Be.E) (A : Option Addr) (n c : Nat) (hq : q.length = 8) (hs : sl.oneCell' = true) (rp : Int × Bool) (er : Int) (hre : Be.findM q cl sq = (rp,er)) (e1 : (er == 1) = false) (e3 : (er != 3) = true) (w : World) :
  Calls Tryz.prog 35 #[.agg (qV dm 2 ep mv vr sl q).toArray,.int .i64 cl,.int .i64 sq,.agg #[.int .i64 2,.int .i64 x,.slice A n c,.int .i64 K]] w fun e w'=>e = .returned (.tuple #[.agg (qV dm 2 ep mv vr sl q).toArray,.agg #[.int .i64 rp.1,.bool rp.2,.slice none 0 0],.int .i64 er]) /\ Below w.heap.size w w':=by
 have HW:=Lib.hid (qw_new w (qV dm 2 ep mv vr sl q) 2 x K A n c)
 have HYL:=Lib.hid (show (qV dm 2 ep mv vr sl q).length = 31 from qV_len hq)
 have HYO:=Lib.hid (show ∀ v ∈ qV dm 2 ep mv vr sl q,v.oneCell' = true from qV_one hs)
 have HQ:=Lib.hid hq
 have HFi:=Lib.hid (fun w1=>Be.rfind_any (w:=w1) hq cl sq)
 obtain ⟨rp1,rp2⟩:=rp
 rw [hre] at HFi
 clear hq hs
 go_enter Tryz.func35,Tryz.ntmps35
 go_wp2_with (first | (refine ld_qtab HW.out.s HQ.out rfl _ rfl rfl ?_) | fail)
 refine (HFi.out _).mono ?_
 rintro e w2 ⟨rfl,hb2⟩
 have HW2:=Lib.hid (HW.out.on hb2)
 clear hb2
 have o0:=HW2.out.op.cell (j:=0) (u:=.int .i64 2) rfl
 have ol:=HW2.out.op.lt
 have sl2:=HW2.out.s.lt
 have s1 : w2.cell? ⟨w.heap.size,1,none⟩ = some (.int .i64 2):=HW2.out.s.cell rfl
 unfold Be.repV
 go_wp2_with fail
 have HV:=Lib.hid (HW2.out.on ((Below.refl _ _).alloc (Nat.le_refl _) (.cells #[.int .i64 rp1,.bool rp2,.slice none 0 0] 52)))
 have HN:=Lib.hid (Row.new w2 52 [.int .i64 rp1,.bool rp2,.slice none 0 0])
 have hwl:=HW2.out.r9.lt
 refine wp_region_held_drew (S:=(fun w'=>Row w' w.heap.size 46 (qV dm 2 ep mv vr sl q) /\ Row w' w2.heap.size 52 [.int .i64 rp1,.bool rp2,.slice none 0 0])) (by kernel_rfl) ?_ (fun hHeld=>?_)
 ·exact ⟨HV.out.s,HN.out⟩
 refine wpAnyH_take (i:=0) (oi:=⟨_,_,_,_,_,_⟩) (v:=?_) rfl (by kernel_rfl) (by kernel_rfl) (by kernel_rfl) (fun _ _ _ h=>h) (Or.inl ⟨by rfl,?_⟩) (by assumption) ?_
 rotate_left
 ·intro w' hSw;(refine yields_q10 hSw.1 HYL.out (.tmp 4) ?_ ?_) <;> rfl
 try simp only [Act.put,List.setIfInBounds_toArray,List.set_cons_zero,List.set_cons_succ]
 refine wpAnyH_take (i:=1) (oi:=⟨_,_,_,_,_,_⟩) (v:=?_) rfl (by kernel_rfl) (by kernel_rfl) (by kernel_rfl) (fun _ _ _ h=>h) (Or.inl ⟨by rfl,?_⟩) (by assumption) ?_
 rotate_left
 ·intro w' hSw;(refine yields_rep hSw.2 (.tmp 11) ?_ ?_) <;> rfl
 try simp only [Act.put,List.setIfInBounds_toArray,List.set_cons_zero,List.set_cons_succ]
 refine wpAnyH_take (i:=2) (oi:=⟨_,_,_,_,_,_⟩) (v:=?_) rfl (by kernel_rfl) (by kernel_rfl) (by kernel_rfl) (fun _ _ _ h=>h) (Or.inl ⟨by rfl,?_⟩) (by assumption) ?_
 rotate_left
 ·intro w hSw;(try dsimp only at hSw);go_simp <;> with_reducible rfl
 try simp only [Act.put,List.setIfInBounds_toArray,List.set_cons_zero,List.set_cons_succ]
 refine wpAnyH_ready (rs:=[3]) (by kernel_rfl) (by simp) ?_
 refine AllReadyH.cons (o:=⟨_,_,_,_,_,_⟩) rfl (fun K hK=>?_) AllReadyH.nil
 refine step_st_row (xs:=qNew 0) (ys:=qV dm 2 ep mv vr sl q) (by exact HV.out.r8) HYL.out (by rw [HYL.out];exact q10_size) HYO.out rfl _ _ rfl rfl rfl ?_;intro W3 hr3 hs3 hg3;have Y9:=Lib.hid (row_grown (by exact HV.out.r9) hg3 (by omega))
 refine hK.out _ _ ?_ (fun hHeld=>?_)
 ·exact ⟨row_grown (by exact HV.out.s) hg3 (by omega),row_grown (by exact HN.out) hg3 (by omega)⟩
 clear hK K
 try simp only [Act.put,List.setIfInBounds_toArray,List.set_cons_zero,List.set_cons_succ]
 refine wpAnyH_ready (rs:=[4]) (by kernel_rfl) (by simp) ?_
 refine AllReadyH.cons (o:=⟨_,_,_,_,_,_⟩) rfl (fun K hK=>?_) AllReadyH.nil
 refine step_st_row (xs:=[.int .i64 0,.bool false,.slice none 0 0]) (ys:=[.int .i64 rp1,.bool rp2,.slice none 0 0]) Y9.out rfl (by kernel_rfl) (by intro v hv;simp only [List.mem_cons,List.not_mem_nil,or_false] at hv;rcases hv with rfl | rfl | rfl <;> rfl) rfl _ _ rfl rfl rfl ?_;intro W4 hr4 hs4 hg4
 refine hK.out _ _ ?_ (fun hHeld=>?_)
 ·exact ⟨row_grown hHeld.1 hg4 (by omega),row_grown hHeld.2 hg4 (by omega)⟩
 clear hK K
 try simp only [Act.put,List.setIfInBounds_toArray,List.set_cons_zero,List.set_cons_succ]
 refine wpAnyH_ready (rs:=[5]) (by kernel_rfl) (by simp) ?_
 refine AllReadyH.cons (o:=⟨_,_,_,_,_,_⟩) rfl (fun K hK=>?_) AllReadyH.nil
 go_simp
 refine hK.out _ _ ?_ (fun hHeld=>?_)
 ·exact hHeld
 clear hK K
 try simp only [Act.put,List.setIfInBounds_toArray,List.set_cons_zero,List.set_cons_succ]
 refine wpAnyH_done (by kernel_rfl) ?_ _
 go_wp2_with fail
 have hb3 : Below w.heap.size w W3:=below_grown_new (show Below w.heap.size w (World.drew _) from HV.out.bel.drew) hg3 (by omega)
 have hb4 : Below w.heap.size w W4:=below_grown_new hb3 hg4 (by omega)
 refine bodyPost_ret (res_q10w Tryz.results35 _ (row_grown hr3 hg4 (by omega)) HYL.out rfl hr4 rfl rfl) rfl ⟨rfl,hb4⟩
end
section
open Go Go.RowKit
def setsL : List Value -> Nat -> List Value -> List Value
 | xs,_,[]=>xs
 | xs,o,v :: r=>setsL (xs.set o v) (o + 1) r
theorem setsL_app : ∀ (vs pre ys : List Value),ys.length = vs.length -> setsL (pre ++ ys) pre.length vs = pre ++ vs
 | [],pre,ys,h=>by
  rw [List.length_eq_zero_iff.1 h]
  rfl
 | v :: r,pre,[],h=>by simp at h
 | v :: r,pre,y :: ys,h=>by
  rw [setsL]
  have e : (pre ++ y :: ys).set pre.length v = (pre ++ [v]) ++ ys:=by
   rw [List.set_append_right (h:=Nat.le_refl _)]
   simp
  have e2 : pre.length + 1 = (pre ++ [v]).length:=by simp
  rw [e,e2,setsL_app r (pre ++ [v]) ys (by simpa using h)]
  simp
theorem Row.sets : ∀ (vs : List Value) (o : Nat) {W : World} {b : Nat} {ty : TypeId} {xs : List Value},Row W b ty xs -> Row (W.setCells b o vs) b ty (setsL xs o vs) /\ (W.setCells b o vs).heap.size = W.heap.size /\ W.grownBy (W.setCells b o vs) (some b)
 | [],o,W,b,ty,xs,h=>⟨h,rfl,⟨rfl,rfl,rfl,Nat.le_refl _,fun _ _ _=>rfl⟩⟩
 | v :: r,o,W,b,ty,xs,h=>by
  rw [World.setCells,setsL]
  obtain ⟨h1,h2,h3⟩:=Row.sets r (o + 1) (h.set o v)
  refine ⟨h1,h2.trans (by simp),?_⟩
  have g1:=grown_setCell (a:=W) (w:=W) ⟨rfl,rfl,rfl,Nat.le_refl _,fun _ _ _=>rfl⟩ ⟨b,o,none⟩ (rfl : (⟨b,o,none⟩ : Addr).block = b) v
  exact ⟨h3.os.trans g1.os,h3.tape.trans g1.tape,h3.output.trans g1.output,Nat.le_trans g1.size h3.size,fun i hi hne=>(h3.block i (Nat.lt_of_lt_of_le hi g1.size) hne).trans (g1.block i hi hne)⟩
theorem row_there {W : World} {b o k : Nat} {ty : TypeId} {xs : List Value} (h : Row W b ty xs) (hk : o + k <= xs.length) : W.there b o k:=fun j hj=>by
 refine ⟨?_,h.frozen _⟩
 rw [h.cell (List.getElem?_eq_getElem (show o + j < xs.length by omega))]
 rfl
section
variable {ops : Array Oper} {rest : List Oper} {o : Oper} {a : Act} {Q : Exit -> Act -> World -> Prop} {W : World}
theorem st_qtab {b : Nat} {dm st ep mv vr : Int} {sl : Value} {q q' : List Be.E} (hR : Row W b 46 (qV dm st ep mv vr sl q)) (hq : q.length = 8) (hq' : q'.length = 8) (hgd : o.guard = none) (x y : Operand) (ho : o.op = .store 44 x y) (hx : a.eval x = .pointer (some ⟨b,7,none⟩)) (hy : a.eval y = Be.tabV q')
  (h : ∀ W',Row W' b 46 (qV dm st ep mv vr sl q') -> W'.heap.size = W.heap.size -> W.grownBy W' (some b) -> wpList Tryz.prog ops Q rest (a.put o.dst undef) W') : wpList Tryz.prog ops Q (o :: rest) a W:=by
 have hl : (Be.qc q).length = 24:=by rw [Be.qc_len,hq]
 have hl' : (Be.qc q').length = 24:=by rw [Be.qc_len,hq']
 obtain ⟨f1,f2,f3⟩:=Row.sets (Be.qc q') 7 hR
 have e : setsL (qV dm st ep mv vr sl q) 7 (Be.qc q') = qV dm st ep mv vr sl q':=setsL_app (Be.qc q') [.int .i64 dm,.int .i64 st,.int .i64 ep,.int .i64 mv,.int .i64 vr,.int .i64 dm,sl] (Be.qc q) (by rw [hl,hl'])
 rw [e] at f1
 exact wpList_store_mid hgd 44 x y ho b 7 (Be.qc q').toArray hx hy (row_there hR (by rw [qV_len hq];simp [hl'])) (by simp only [List.size_toArray,hl'];kernel_rfl) (all_oneCell_toArray (Be.qc_one q')) (h _ f1 f2 f3)
theorem ld_qtree {b : Nat} {dm st ep mv vr : Int} {sl : Value} {q : List Be.E} (hR : Row W b 46 (qV dm st ep mv vr sl q)) (hgd : o.guard = none) (x : Operand) (ho : o.op = .load 40 x) (hx : a.eval x = .pointer (some ⟨b,5,none⟩))
  (h : wpList Tryz.prog ops Q rest (a.put o.dst (.agg #[.int .i64 dm,sl])) W) : wpList Tryz.prog ops Q (o :: rest) a W :=
 wpList_load_mid hgd 40 x ho b 5 hx [.int .i64 dm,sl] _ (fun j v hv=>by
  rcases j with _ | _ | j
  ·cases hv;exact hR.cell rfl
  ·cases hv;exact hR.cell rfl
  ·simp at hv) Tryz.underlying40 rfl (by kernel_rfl) h
theorem st_qtree {b : Nat} {dm st ep mv vr : Int} {sl sl' : Value} {q : List Be.E} (hR : Row W b 46 (qV dm st ep mv vr sl q)) (hq : q.length = 8) (hs : sl'.oneCell' = true) (hgd : o.guard = none) (x y : Operand) (ho : o.op = .store 40 x y) (hx : a.eval x = .pointer (some ⟨b,5,none⟩)) (hy : a.eval y = .agg #[.int .i64 dm,sl'])
  (h : ∀ W',Row W' b 46 (qV dm st ep mv vr sl' q) -> W'.heap.size = W.heap.size -> W.grownBy W' (some b) -> wpList Tryz.prog ops Q rest (a.put o.dst undef) W') : wpList Tryz.prog ops Q (o :: rest) a W:=by
 obtain ⟨f1,f2,f3⟩:=Row.sets [.int .i64 dm,sl'] 5 hR
 exact wpList_store_mid hgd 40 x y ho b 5 #[.int .i64 dm,sl'] hx hy (row_there hR (by rw [qV_len hq];exact Nat.le_of_ble_eq_true rfl)) (by kernel_rfl) (all_oneCell_toArray (cs:=[.int .i64 dm,sl']) (by intro v hv;simp only [List.mem_cons,List.not_mem_nil,or_false] at hv;rcases hv with rfl | rfl;rfl;exact hs)) (h _ f1 f2 f3)
end
end
section
open Go Go.RowKit Go.Maps
structure PtIn (w : World) (P : Nat -> Prop) (p : Pt) : Prop where
 len : p.2.1.2.1 = p.2.2.length
 cells : 0 < p.2.2.length -> ∃ ad,p.2.1.1 = some ad /\ P ad.block /\ ∀ j u,(ints p.2.2)[j]? = some u -> w.cell? (ad.add j) = some u
 max : p.2.2.length <= maxLen
 wf : (Lit.int .i64 p.1).wf = true
structure DocW (w : World) (P : Nat -> Prop) (A : Option Addr) (c : Nat) (l : List Pt) : Prop where
 nc : l.length <= c
 cm : c <= maxLen
 row : (A = none /\ c = 0 /\ l = []) \/ ∃ ad,A = some ad /\ P ad.block /\ ∀ j u,(pts l)[j]? = some u -> w.cell? (ad.add j) = some u
 allp : ∀ p ∈ l,PtIn w P p
 lt : ∀ b,P b -> b < w.heap.size
section
variable {w w' : World} {P P' : Nat -> Prop} {A : Option Addr} {c : Nat} {l : List Pt} {p : Pt}
theorem PtIn.keep (h : PtIn w P p) (hk : ∀ b,P b -> w'.heap[b]? = w.heap[b]?) : PtIn w' P p :=
 ⟨h.len,fun h0=>by
  obtain ⟨ad,e,hp,hc⟩:=h.cells h0
  exact ⟨ad,e,hp,fun j u hj=>(World.cell?_of_block (by rw [block_of_add];exact hk _ hp)).trans (hc j u hj)⟩,h.max,h.wf⟩
theorem PtIn.more (h : PtIn w P p) (hP : ∀ b,P b -> P' b) : PtIn w P' p :=
 ⟨h.len,fun h0=>by
  obtain ⟨ad,e,hp,hc⟩:=h.cells h0
  exact ⟨ad,e,hP _ hp,hc⟩,h.max,h.wf⟩
theorem PtIn.reads (h : PtIn w P p) (hl : ∀ b,P b -> b < w.heap.size) : Reads w w.heap.size 1 p.2.1.1 p.2.1.2.1 (ints p.2.2) :=
 ⟨by rw [ints_len,h.len];omega,fun h0=>by
  obtain ⟨ad,e,hp,hc⟩:=h.cells (by rw [<- h.len];exact h0)
  exact ⟨ad,e,hl _ hp,hc⟩⟩
theorem DocW.keep (h : DocW w P A c l) (hk : ∀ b,P b -> w'.heap[b]? = w.heap[b]?) (hs : w.heap.size <= w'.heap.size) : DocW w' P A c l :=
 ⟨h.nc,h.cm,h.row.imp id (fun ⟨ad,e,hp,hc⟩=>⟨ad,e,hp,fun j u hj=>(World.cell?_of_block (by rw [block_of_add];exact hk _ hp)).trans (hc j u hj)⟩),fun p hp=>(h.allp p hp).keep hk,fun b hb=>Nat.lt_of_lt_of_le (h.lt b hb) hs⟩
theorem DocW.below (h : DocW w P A c l) (hb : Below w.heap.size w w') : DocW w' P A c l:=h.keep (fun b hP=>hb.block b (h.lt b hP)) hb.size
theorem DocW.more (h : DocW w P A c l) (hP : ∀ b,P b -> P' b) (hl : ∀ b,P' b -> b < w.heap.size) : DocW w P' A c l :=
 ⟨h.nc,h.cm,h.row.imp id (fun ⟨ad,e,hp,hc⟩=>⟨ad,e,hP _ hp,hc⟩),fun p hp=>(h.allp p hp).more hP,hl⟩
theorem DocW.toPts (h : DocW w P A c l) : Pts w w.heap.size A l.length l :=
 ⟨⟨pts_len l,fun h0=>by
  rcases h.row with ⟨_,_,e⟩ | ⟨ad,e,hp,hc⟩
  ·rw [e] at h0
   simp at h0
  ·exact ⟨ad,e,h.lt _ hp,hc⟩⟩,fun p hp=>⟨⟨(h.allp p hp).reads h.lt,by rw [(h.allp p hp).len];exact (h.allp p hp).max⟩,(h.allp p hp).wf⟩⟩
theorem DocW.nil (hl : ∀ b,P b -> b < w.heap.size) : DocW w P none 0 []:=⟨by simp,by decide,.inl ⟨rfl,rfl,rfl⟩,fun p hp=>by simp at hp,hl⟩
theorem DocW.of_own {base : Nat} {n : Nat} (ho : w.ownsRow base 104 2 (.slice A n c) n (pts l)) (hn : n = l.length) (hp : ∀ p ∈ l,PtIn w P p) (hl : ∀ b,P b -> b < w.heap.size) (hP : ∀ g,base <= g -> g < w.heap.size -> P g) : DocW w P A c l:=by
 subst hn
 rcases ho.2 with ⟨e,e2⟩ | ⟨g,cap,cur,e,h1,h2,h3,h4,h5,h6⟩
 ·injection e with e1 _ e3
  subst e1 e3
  have : l = []:=List.eq_nil_of_length_eq_zero e2
  subst this
  exact DocW.nil hl
 ·injection e with e1 _ e3
  subst e1 e3
  have hlt:=(ho.lt g rfl)
  exact ⟨h3,h4,.inr ⟨_,rfl,hP _ hlt.1 hlt.2,ho.cells (g:=g) rfl⟩,hp,hl⟩
end
theorem pts_take (l : List Pt) (k : Nat) : (pts l).take (k * 2) = pts (l.take k):=by
 induction l generalizing k with
 | nil=>simp [pts]
 | cons t r ih =>
  have e : pts (t :: r) = .int .i64 t.1 :: .slice t.2.1.1 t.2.1.2.1 t.2.1.2.2 :: pts r:=by simp [pts,pcell]
  rcases k with _ | k
  ·simp [pts]
  ·rw [e,show (k + 1) * 2 = k * 2 + 1 + 1 by omega,List.take_succ_cons,List.take_succ_cons,ih]
   simp [pts,pcell]
theorem pts_drop (l : List Pt) (k : Nat) : (pts l).drop (k * 2) = pts (l.drop k):=by
 induction l generalizing k with
 | nil=>simp [pts]
 | cons t r ih =>
  have e : pts (t :: r) = .int .i64 t.1 :: .slice t.2.1.1 t.2.1.2.1 t.2.1.2.2 :: pts r:=by simp [pts,pcell]
  rcases k with _ | k
  ·simp
  ·rw [e,show (k + 1) * 2 = k * 2 + 1 + 1 by omega,List.drop_succ_cons,List.drop_succ_cons,ih]
   simp
theorem pts_app (l m : List Pt) : pts (l ++ m) = pts l ++ pts m:=by simp [pts]
theorem pts_one (l : List Pt) : ∀ u ∈ pts l,u.oneCell' = true:=by
 intro u hu
 obtain ⟨x,_,h⟩:=List.mem_flatMap.1 hu
 exact pcell_one x u h
structure Plc (T : List Pnt) (x : Int) (k : Nat) (b : Bool) : Prop where
 le : k <= T.length
 lo : ∀ p ∈ T.take k,p.1 < x
 hi : ∀ p ∈ T.drop k,x <= p.1
 yes : b = true -> ∃ v r,T.drop k = (x,v) :: r /\ ∀ p ∈ r,x < p.1
 no : b = false -> ∀ p ∈ T.drop k,x < p.1
theorem Plc.put {T : List Pnt} {x : Int} {k : Nat} {b : Bool} (h : Plc T x k b) (l : List Int) : putT x l T = T.take k ++ (x,l) :: T.drop (if b = true then k + 1 else k):=by
 have e0 : T = T.take k ++ T.drop k:=(List.take_append_drop k T).symm
 cases b with
 | true =>
  obtain ⟨v,r,e,hr⟩:=h.yes rfl
  have e1 : T.drop (k + 1) = r:=by rw [<- List.drop_drop (i:=1) (j:=k),e];rfl
  rw [if_pos rfl,e1]
  unfold putT
  conv=>lhs;rw [e0,e]
  rw [List.filter_append,List.filter_append,List.filter_cons,List.filter_cons,if_neg (by simp),if_neg (by simp),
   List.filter_eq_self.2 (fun p hp=>decide_eq_true (h.lo p hp)),List.filter_eq_nil_iff.2 (fun p hp=>by have:=hr p hp;simp;omega),List.filter_eq_nil_iff.2 (fun p hp=>by have:=h.lo p hp;simp;omega),List.filter_eq_self.2 (fun p hp=>decide_eq_true (hr p hp))]
  simp
 | false =>
  have hr:=h.no rfl
  rw [if_neg (by simp)]
  unfold putT
  conv=>lhs;rw [e0]
  rw [List.filter_append,List.filter_append,
   List.filter_eq_self.2 (fun p hp=>decide_eq_true (h.lo p hp)),List.filter_eq_nil_iff.2 (fun p hp=>by have:=hr p hp;simp;omega),List.filter_eq_nil_iff.2 (fun p hp=>by have:=h.lo p hp;simp;omega),List.filter_eq_self.2 (fun p hp=>decide_eq_true (hr p hp))]
  simp
theorem Plc.has {T : List Pnt} {x : Int} {k : Nat} {b : Bool} (h : Plc T x k b) : hasT x T = b:=by
 have e0 : T = T.take k ++ T.drop k:=(List.take_append_drop k T).symm
 cases b with
 | true =>
  obtain ⟨v,r,e,hr⟩:=h.yes rfl
  rw [hasT_iff]
  refine ⟨(x,v),?_,rfl⟩
  rw [e0,e]
  simp
 | false =>
  rw [Bool.eq_false_iff,Ne,hasT_iff]
  rintro ⟨p,hp,e⟩
  rw [e0] at hp
  rcases List.mem_append.1 hp with hp | hp
  ·have:=h.lo p hp
   omega
  ·have:=h.no rfl p hp
   omega
theorem Plc.del {T : List Pnt} {x : Int} {k : Nat} (h : Plc T x k true) : delT x T = T.take k ++ T.drop (k + 1):=by
 have e0 : T = T.take k ++ T.drop k:=(List.take_append_drop k T).symm
 obtain ⟨v,r,e,hr⟩:=h.yes rfl
 have e1 : T.drop (k + 1) = r:=by rw [<- List.drop_drop (i:=1) (j:=k),e];rfl
 rw [e1]
 unfold delT
 conv=>lhs;rw [e0,e]
 rw [List.filter_append,List.filter_cons,if_neg (by simp),List.filter_eq_self.2 (fun p hp=>decide_eq_true (by have:=h.lo p hp;omega)),List.filter_eq_self.2 (fun p hp=>decide_eq_true (by have:=hr p hp;omega))]
theorem Plc.del_no {T : List Pnt} {x : Int} {k : Nat} (h : Plc T x k false) : delT x T = T:=by
 unfold delT
 rw [List.filter_eq_self]
 intro p hp
 refine decide_eq_true (fun e=>?_)
 have:=h.has
 rw [Bool.eq_false_iff,Ne,hasT_iff] at this
 exact this ⟨p,hp,e⟩
theorem bare_at {l : List Pt} {k : Nat} (hk : k < l.length) : (l.map bareP)[k]? = some (bareP (ptAt l k)):=by
 unfold ptAt
 rw [List.getElem?_map,List.getD_eq_getElem?_getD,List.getElem?_eq_getElem hk]
 rfl
theorem plc_of {l : List Pt} (hr : Rise (l.map bareP)) {x : Int} {k : Nat} (hk : k <= l.length) (h1 : ∀ j,j < k -> (ptAt l j).1 < x) (h2 : k < l.length -> ¬ (ptAt l k).1 < x) (b : Bool) (hb : b = decide (k < l.length /\ (ptAt l k).1 = x)) : Plc (l.map bareP) x k b:=by
 have hlen : (l.map bareP).length = l.length:=List.length_map ..
 have hdrop : k < l.length -> (l.map bareP).drop k = bareP (ptAt l k) :: (l.map bareP).drop (k + 1):=fun h=>by
  rw [List.drop_eq_getElem_cons (by rw [hlen];exact h)]
  congr 1
  have:=bare_at h
  rw [List.getElem?_eq_getElem (by rw [hlen];exact h)] at this
  exact Option.some.inj this
 have hafter : k < l.length -> ∀ p ∈ (l.map bareP).drop (k + 1),(ptAt l k).1 < p.1:=fun h p hp=>by
  have h3 : Rise ((l.map bareP).drop k):=List.Pairwise.drop hr
  rw [hdrop h] at h3
  exact (List.pairwise_cons.1 h3).1 p hp
 have hnone : ¬ k < l.length -> (l.map bareP).drop k = []:=fun h=>List.drop_eq_nil_of_le (by omega)
 refine ⟨by omega,fun p hp=>?_,fun p hp=>?_,fun hb'=>?_,fun hb' p hp=>?_⟩
 ·obtain ⟨j,hj,rfl⟩:=List.mem_iff_getElem.1 hp
  rw [List.length_take] at hj
  have hjl : j < l.length:=by omega
  have:=bare_at hjl
  rw [List.getElem?_eq_getElem (by omega)] at this
  rw [List.getElem_take,Option.some.inj this]
  exact h1 j (by omega)
 ·by_cases h : k < l.length
  ·rw [hdrop h] at hp
   have:=h2 h
   rcases List.mem_cons.1 hp with rfl | hp
   ·show x <= (ptAt l k).1
    omega
   ·have:=hafter h p hp
    omega
  ·rw [hnone h] at hp
   simp at hp
 ·rw [hb'] at hb
  obtain ⟨h3,h4⟩:=of_decide_eq_true hb.symm
  refine ⟨(ptAt l k).2.2,_,?_,fun p hp=>by have:=hafter h3 p hp;omega⟩
  rw [hdrop h3,<- h4]
  rfl
 ·by_cases h : k < l.length
  ·rw [hb'] at hb
   have hne : ¬ (ptAt l k).1 = x:=fun e=>by
    have:=of_decide_eq_false hb.symm
    exact this ⟨h,e⟩
   have:=h2 h
   rw [hdrop h] at hp
   rcases List.mem_cons.1 hp with rfl | hp
   ·show x < (ptAt l k).1
    omega
   ·have:=hafter h p hp
    omega
  ·rw [hnone h] at hp
   simp at hp
theorem rplace_any {w : World} {A : Option Addr} {c : Nat} {l : List Pt} (h : Pts w w.heap.size A l.length l) (hm : l.length <= 1000000) (hr : Rise (l.map bareP)) (x : Int) :
  Calls Tryz.prog 113 #[.slice A l.length c,.int .i64 x] w fun e w'=>∃ (k : Nat) (b : Bool),e = .returned (.tuple #[.int .i64 (k : Int),.bool b]) /\ Plc (l.map bareP) x k b /\ ∃ q,w' = w.drewN q:=by
 have HP:=Lib.hid h
 have HR:=Lib.hid hr
 clear h hr
 generalize hn : l.length = n at *
 have HN:=Lib.hid hn
 clear hn
 go_enter Tryz.func113,Tryz.ntmps113
 go_wp2_with fail
 go_loopw [6] (fun vi wr=>∃ k : Nat,k <= n /\ vi = .int .i64 k /\ wr = w /\ Hid (∀ j,j < k -> (ptAt l j).1 < x)) (fun vi _=>n - (intOf vi).toNat)
 case atStart=>exact ⟨0,by omega,rfl,rfl,Lib.hid (fun j hj=>absurd hj (by omega))⟩
 case round =>
  obtain ⟨k,hk,rfl,hw,HK⟩:=hrel
  have hw : w = wr:=hw.symm
  subst hw
  by_cases hlt : k < n
  ·have hkz : (k : Int) < (n : Int):=by omega
   obtain ⟨ad,hA,hab,hil,x0,x1,hg⟩:=HP.out.at_ hlt
   subst hA
   have cl : (ad.add (k * 2)).block < w.heap.size:=by rw [block_of_add];exact hab
   have HPL:=Lib.hid (fun (h2 : k < l.length -> ¬ (ptAt l k).1 < x) (b : Bool) (hb : b = decide (k < l.length /\ (ptAt l k).1 = x))=>plc_of HR.out (by omega) HK.out h2 b hb)
   have HNX:=Lib.hid (show (ptAt l k).1 < x -> ∀ j,j < k + 1 -> (ptAt l j).1 < x from fun h j hj=>by
    rcases Nat.lt_or_ge j k with h' | h'
    ·exact HK.out j h'
    ·rw [show j = k by omega]
     exact h)
   have HIL:=Lib.hid hil
   clear hg x1 hab hil
   generalize (ptAt l k).1 = y at *
   by_cases hyx : y < x
   ·have HN2:=Lib.hid (HNX.out hyx)
    go_wp2_with fail
    go_roundw
    case rel=>exact ⟨k + 1,by omega,by go_num,trivial,HN2⟩
    case measure=>simp [intOf];omega
   ·by_cases hye : y = x
    ·have HPL2:=Lib.hid (HPL.out (fun _=>hyx) true (by rw [eq_comm,decide_eq_true_iff];exact ⟨HIL.out,hye⟩))
     have hb : (y == x) = true:=by rw [hye];simp
     have HYE:=Lib.hid hye
     clear hye
     go_wp2_with fail
     go_quiet (fail)
     go_wp2_with fail
     go_ret2
     exact ⟨k,true,rfl,HPL2.out,_,by first | rfl | exact World.drewN_drewN ..⟩
    ·have HPL2:=Lib.hid (HPL.out (fun _=>hyx) false (by rw [eq_comm,decide_eq_false_iff_not];exact fun h=>hye h.2))
     have hb : (y == x) = false:=by simp [hye]
     go_wp2_with fail
     go_quiet (fail)
     go_wp2_with fail
     go_ret2
     exact ⟨k,false,rfl,HPL2.out,_,by first | rfl | exact World.drewN_drewN ..⟩
  ·have hkz : ¬ (k : Int) < (n : Int):=by omega
   have hkz2 : decide ((k : Int) < (n : Int)) = false:=decide_eq_false hkz
   have hkn : k = l.length:=by have:=HN.out;omega
   have HPL2:=Lib.hid (plc_of HR.out (by omega) HK.out (fun h=>absurd h (by omega)) false (by rw [eq_comm,decide_eq_false_iff_not];exact fun h=>absurd h.1 (by omega)))
   clear hkn
   go_wp2_with fail
   go_quiet (fail)
   go_wp2_with fail
   go_ret2
   exact ⟨k,false,rfl,HPL2.out,_,by first | rfl | exact World.drewN_drewN ..⟩
end
section
open Go Go.RowKit Go.Maps
def putA (dim : Nat) (x : Int) (l : List Int) (T : List Pnt) : Bool × Int:=if ck l dim = 0 then (if hasT x T = true \/ T.length < 512 then (hasT x T,0) else (false,2)) else (false,50)
def putR (dim : Nat) (x : Int) (l : List Int) (T : List Pnt) : List Pnt:=if ck l dim = 0 /\ (hasT x T = true \/ T.length < 512) then putT x l T else T
theorem append_pts {ops : Array Oper} {rest : List Oper} {o : Oper} {a : Act} {Q : Exit -> Act -> World -> Prop} {W : World} (hgd : o.guard = none) (s x : Operand)
  (ho : o.op = .call { callee:=.builtin .append,args:=#[s,x],argTypes:=#[38,38] })
  (base : Nat) (v : Value) (n : Nat) (L : List Pt) (hs : a.eval s = v) (hown : W.ownsRow base 104 2 v n (pts L)) (B : Nat) (A : Option Addr) (m c : Nat) (M : List Pt) (hx : a.eval x = .slice A m c) (hR : Reads W B 2 A m (pts M))
  (hn : n + m <= 1000000) (hbase : base <= W.heap.size)
  (h : ∀ v' w',w'.ownsRow base 104 2 v' (n + m) (pts (L ++ M)) -> W.grownBy w' v.ownBlock -> wpList Tryz.prog ops Q rest (a.put o.dst v') w') :
  wpList Tryz.prog ops Q (o :: rest) a W:=by
 obtain ⟨i0,hi,hz0,hz1,hz2⟩:=info_parts pt_row
 refine wpList_append_any W hgd s x 38 ho base 104 i0 (.agg #[.int .i64 0,.slice none 0 0]) 2 32 Tryz.underlying38 hi hz0 hz1 hz2 rfl (by decide) v n (pts L) hs hown B A m c (pts M) hx hR (pts_one M) (by unfold maxLen;omega) (by omega) hbase (fun v' w' h1 h2 _=>?_)
 refine h v' w' ?_ h2
 rw [pts_app]
 exact h1
def NewP (P : Nat -> Prop) (w w' : World) (b : Nat) : Prop:=P b \/ (w.heap.size <= b /\ b < w'.heap.size)
theorem newP_lt {P : Nat -> Prop} {w w' : World} (h : ∀ b,P b -> b < w.heap.size) (hs : w.heap.size <= w'.heap.size) : ∀ b,NewP P w w' b -> b < w'.heap.size:=fun b hb=>hb.elim (fun h1=>Nat.lt_of_lt_of_le (h b h1) hs) (fun h1=>h1.2)
def RPutPost (P : Nat -> Prop) (dim : Nat) (l : List Pt) (x : Int) (pv : List Int) (w : World) (e : Ending) (w' : World) : Prop :=
 ∃ (A' : Option Addr) (c' : Nat) (l' : List Pt),e = .returned (.tuple #[.agg #[.int .i64 (dim : Int),.slice A' l'.length c'],.bool (putA dim x pv (l.map bareP)).1,.int .i64 (putA dim x pv (l.map bareP)).2]) /\ DocW w' (NewP P w w') A' c' l' /\ l'.map bareP = putR dim x pv (l.map bareP) /\ Below w.heap.size w w'
theorem RPutPost.same {P : Nat -> Prop} {dim : Nat} {A : Option Addr} {c : Nat} {l : List Pt} {x : Int} {pv : List Int} {w w' : World} (h : DocW w P A c l) (hb : Below w.heap.size w w') {bo : Bool} {er : Int} (ha : putA dim x pv (l.map bareP) = (bo,er)) (hr : putR dim x pv (l.map bareP) = l.map bareP) :
  RPutPost P dim l x pv w (.returned (.tuple #[.agg #[.int .i64 (dim : Int),.slice A l.length c],.bool bo,.int .i64 er])) w' :=
 ⟨A,c,l,by rw [ha],(h.below hb).more (fun b hP=>.inl hP) (newP_lt h.lt hb.size),hr.symm,hb⟩
theorem RPutPost.new {P : Nat -> Prop} {dim : Nat} {A A2 : Option Addr} {c c2 n2 base : Nat} {l l2 : List Pt} {x : Int} {pv : List Int} {w w2 w' : World} (h : DocW w P A c l) {b : Bool} {k : Nat} (hp : Plc (l.map bareP) x k b) {p : Pt} (hpb : bareP p = (x,pv)) (hpi : PtIn w P p) (hck : ck pv dim = 0) (hroom : hasT x (l.map bareP) = true \/ (l.map bareP).length < 512)
  (hl2 : l2 = l.take k ++ [p] ++ l.drop (if b = true then k + 1 else k)) (hn : n2 = l2.length) (ho : w2.ownsRow base 104 2 (.slice A2 n2 c2) n2 (pts l2)) (hbase : w.heap.size <= base) (hb : Below w.heap.size w w2) (hb2 : Below w.heap.size w w') (hkeep : ∀ g,base <= g -> g < w2.heap.size -> w'.heap[g]? = w2.heap[g]?) (hs2 : w2.heap.size <= w'.heap.size) :
  RPutPost P dim l x pv w (.returned (.tuple #[.agg #[.int .i64 (dim : Int),.slice A2 n2 c2],.bool b,.int .i64 0])) w':=by
 have hbp : hasT x (l.map bareP) = b:=hp.has
 refine ⟨A2,c2,l2,?_,?_,?_,hb2⟩
 ·unfold putA
  rw [if_pos hck,if_pos hroom,hbp,hn]
 ·have ho' : w'.ownsRow base 104 2 (.slice A2 n2 c2) n2 (pts l2):=own_keep ho (fun g hg=>hkeep g (ho.lt g hg).1 (ho.lt g hg).2)
  refine DocW.of_own ho' hn (fun q hq=>?_) (newP_lt h.lt hb2.size) (fun g h1 h2=>.inr ⟨by omega,h2⟩)
  have hq' : PtIn w P q:=by
   rw [hl2] at hq
   rcases List.mem_append.1 hq with hq | hq
   ·rcases List.mem_append.1 hq with hq | hq
    ·exact h.allp q (List.mem_of_mem_take hq)
    ·rw [List.mem_singleton.1 hq]
     exact hpi
   ·exact h.allp q (List.mem_of_mem_drop hq)
  exact (hq'.keep (fun b hP=>hb2.block b (h.lt b hP))).more (fun b hP=>.inl hP)
 ·rw [hl2,List.map_append,List.map_append,List.map_take,List.map_drop]
  unfold putR
  rw [if_pos (show ck pv dim = 0 /\ (hasT x (l.map bareP) = true \/ (l.map bareP).length < 512) from ⟨hck,hroom⟩),hp.put pv]
  have e : [p].map bareP = [(x,pv)]:=by rw [<- hpb];rfl
  rw [e,List.append_assoc]
  rfl
structure PBox (w W : World) (dim : Int) (sl : Value) (x : Int) (psl : Value) : Prop where
 b0 : Row W w.heap.size 40 [.int .i64 dim,sl]
 b1 : Row W (w.heap.size + 1) 104 [.int .i64 x,psl]
 b2 : Row W (w.heap.size + 1 + 1) 40 [.int .i64 0,.slice none 0 0]
 below : Below w.heap.size w W
 le : w.heap.size + 3 <= W.heap.size
theorem PBox.new (w : World) (dim : Int) (sl : Value) (x : Int) (psl : Value) : PBox w (((w.alloc (.cells #[.int .i64 dim,sl] 40)).alloc (.cells #[.int .i64 x,psl] 104)).alloc (.cells #[.int .i64 0,.slice none 0 0] 40)) dim sl x psl:=by
 have e1 : (w.alloc (.cells #[.int .i64 dim,sl] 40)).heap.size = w.heap.size + 1:=by simp
 have e2 : ((w.alloc (.cells #[.int .i64 dim,sl] 40)).alloc (.cells #[.int .i64 x,psl] 104)).heap.size = w.heap.size + 1 + 1:=by simp
 refine ⟨?_,?_,?_,(((Below.refl _ w).alloc (Nat.le_refl _) _).alloc (by omega) _).alloc (by omega) _,by simp⟩
 ·exact ((Row.new w 40 [.int .i64 dim,sl]).keep (heap_alloc_lt _ _ (by omega))).keep (heap_alloc_lt _ _ (by omega))
 ·have:=Row.new (w.alloc (.cells #[.int .i64 dim,sl] 40)) 104 [.int .i64 x,psl]
  rw [e1] at this
  exact this.keep (heap_alloc_lt _ _ (by omega))
 ·have:=Row.new ((w.alloc (.cells #[.int .i64 dim,sl] 40)).alloc (.cells #[.int .i64 x,psl] 104)) 40 [.int .i64 0,.slice none 0 0]
  rw [e2] at this
  exact this
theorem PBox.under {w W W' : World} {dim : Int} {sl : Value} {x : Int} {psl : Value} (h : PBox w W dim sl x psl) {B : Nat} (hb : Below B W W') (hB : w.heap.size + 3 <= B) : PBox w W' dim sl x psl :=
 ⟨h.b0.keep (hb.block _ (by omega)),h.b1.keep (hb.block _ (by omega)),h.b2.keep (hb.block _ (by omega)),h.below.trans (hb.mono (by omega)),Nat.le_trans h.le hb.size⟩
theorem rput_no {w : World} {P : Nat -> Prop} {A : Option Addr} {c dim : Nat} {l : List Pt} (h : DocW w P A c l) (hr : Rise (l.map bareP)) (hl : l.length <= 512) {p : Pt} (hp : PtIn w P p)
  (hno : ck p.2.2 dim ≠ 0 \/ (ck p.2.2 dim = 0 /\ hasT p.1 (l.map bareP) = false /\ 512 <= l.length)) :
  Calls Tryz.prog 67 #[.agg #[.int .i64 (dim : Int),.slice A l.length c],.agg #[.int .i64 p.1,.slice p.2.1.1 p.2.1.2.1 p.2.1.2.2]] w (RPutPost P dim l p.1 p.2.2 w):=by
 have hB:=PBox.new w (dim : Int) (.slice A l.length c) p.1 (.slice p.2.1.1 p.2.1.2.1 p.2.1.2.2)
 generalize hW : ((w.alloc (.cells #[.int .i64 (dim : Int),.slice A l.length c] 40)).alloc (.cells #[.int .i64 p.1,.slice p.2.1.1 p.2.1.2.1 p.2.1.2.2] 104)).alloc (.cells #[.int .i64 0,.slice none 0 0] 40) = W at *
 have HW:=Lib.hid hW
 clear hW
 have hck:=rcheck_any p.2.1.1 p.2.1.2.1 p.2.1.2.2 w.heap.size p.2.2 (dim : Int) W ((hp.reads h.lt).below hB.below) (by rw [hp.len];exact hp.max)
 have hcm:=h.cm
 unfold maxLen at hcm
 have hnc:=h.nc
 have H:=Lib.hid (And.intro h (And.intro hr (And.intro hl hp)))
 have HB:=Lib.hid hB
 have y0:=hB.b0.cell (j:=0) rfl
 have y1:=hB.b0.cell (j:=1) rfl
 have p0:=hB.b1.cell (j:=0) rfl
 have p1:=hB.b1.cell (j:=1) rfl
 have r0:=hB.b2.cell (j:=0) rfl
 have r1:=hB.b2.cell (j:=1) rfl
 have f0:=hB.b2.frozen 0
 have f1:=hB.b2.frozen 1
 have l0:=hB.b0.lt
 have l1:=hB.b1.lt
 have l2:=hB.b2.lt
 have hs:=hB.b2.set 0 (.int .i64 (dim : Int))
 have hs2:=hs.set 1 (.slice A l.length c)
 rcases hno with hno | ⟨hno,hh,hf⟩
 ·have h50 : ck p.2.2 dim = 50:=(ck_or _ _).resolve_left hno
  rw [h50] at hck
  have HF:=Lib.hid (fun (w' : World) (hb : Below w.heap.size w w')=>RPutPost.same (dim:=dim) (x:=p.1) (pv:=p.2.2) H.out.1 hb (bo:=false) (er:=50) (by unfold putA;rw [if_neg hno]) (by unfold putR;rw [if_neg (fun hh=>hno hh.1)]))
  clear h hr hl hp hno h50 hB
  go_enter Tryz.func67,Tryz.ntmps67
  go_wp2_with fail
  rw [HW.out]
  refine hck.mono ?_
  rintro e w1 ⟨rfl,q,rfl⟩
  go_wp2_with fail
  have g0 : (((W.drewN q).setCell ⟨w.heap.size + 1 + 1,0,none⟩ (.int .i64 (dim : Int))).setCell ⟨w.heap.size + 1 + 1,1,none⟩ (.slice A l.length c)).cell? ⟨w.heap.size + 1 + 1,0,none⟩ = some (.int .i64 (dim : Int)):=hs2.cell (j:=0) rfl
  have g1 : (((W.drewN q).setCell ⟨w.heap.size + 1 + 1,0,none⟩ (.int .i64 (dim : Int))).setCell ⟨w.heap.size + 1 + 1,1,none⟩ (.slice A l.length c)).cell? ⟨w.heap.size + 1 + 1,1,none⟩ = some (.slice A l.length c):=hs2.cell (j:=1) rfl
  refine bodyPost_ret (v:=.tuple #[.agg #[.int .i64 (dim : Int),.slice A l.length c],.bool false,.int .i64 50]) (by simp [results,Tryz.results67,go_sem,g0,g1]) rfl ?_
  exact HF.out _ (below_setCell (below_setCell (below_drewN HB.out.below q) (by show w.heap.size <= w.heap.size + 1 + 1;omega) _) (by show w.heap.size <= w.heap.size + 1 + 1;omega) _)
 ·rw [hno] at hck
  have hpl:=fun q=>rplace_any (c:=c) ((h.below hB.below).below (below_drewN (Below.refl _ W) q)).toPts (by omega) hr p.1
  have HF:=Lib.hid (fun (w' : World) (hb : Below w.heap.size w w')=>RPutPost.same (dim:=dim) (x:=p.1) (pv:=p.2.2) H.out.1 hb (bo:=false) (er:=2) (by unfold putA;rw [if_pos hno,if_neg (fun hh2=>by rw [hh] at hh2;simp at hh2;omega)]) (by unfold putR;rw [if_neg (fun hh2=>by rw [hh] at hh2;simp at hh2;omega)]))
  have HH:=Lib.hid hh
  have hfz : (512 : Int) <= (l.length : Int):=by omega
  clear h hr hl hp hno hB hh hf
  go_enter Tryz.func67,Tryz.ntmps67
  go_wp2_with fail
  rw [HW.out]
  refine hck.mono ?_
  rintro e w1 ⟨rfl,q,rfl⟩
  go_wp2_with fail
  refine (hpl q).mono ?_
  rintro e w2 ⟨k,b,rfl,hplc,q2,rfl⟩
  have hb : b = false:=hplc.has.symm.trans HH.out
  subst hb
  have hs3 : Row (((W.drewN (q + q2)).setCell ⟨w.heap.size + 1 + 1,0,none⟩ (.int .i64 (dim : Int))).setCell ⟨w.heap.size + 1 + 1,1,none⟩ (.slice A l.length c)) (w.heap.size + 1 + 1) 40 [.int .i64 (dim : Int),.slice A l.length c]:=hs2
  have HB3:=Lib.hid (show Below w.heap.size w (((W.drewN (q + q2)).setCell ⟨w.heap.size + 1 + 1,0,none⟩ (.int .i64 (dim : Int))).setCell ⟨w.heap.size + 1 + 1,1,none⟩ (.slice A l.length c)) from below_setCell (below_setCell (below_drewN HB.out.below (q + q2)) (by show w.heap.size <= w.heap.size + 1 + 1;omega) _) (by show w.heap.size <= w.heap.size + 1 + 1;omega) _)
  have HS3:=Lib.hid hs3
  clear hplc hs hs2 hs3 hpl hck
  go_wp2_with fail
  have g0:=HS3.out.cell (j:=0) rfl
  have g1:=HS3.out.cell (j:=1) rfl
  refine bodyPost_ret (v:=.tuple #[.agg #[.int .i64 (dim : Int),.slice A l.length c],.bool false,.int .i64 2]) (by simp [results,Tryz.results67,go_sem,g0,g1]) rfl ?_
  exact HF.out _ HB3.out
theorem Reads.pre {w : World} {B size n k : Nat} {A : Option Addr} {xs : List Value} (h : Reads w B size A n xs) (hk : k <= n) : Reads w B size A k (xs.take (k * size)):=by
 have hle : k * size <= n * size:=Nat.mul_le_mul_right _ hk
 refine ⟨by rw [List.length_take,h.1];omega,fun h0=>?_⟩
 obtain ⟨ad,e,hb,hc⟩:=h.2 (by omega)
 refine ⟨ad,e,hb,fun j u hj=>hc j u ?_⟩
 rw [List.getElem?_take] at hj
 split at hj
 ·exact hj
 ·cases hj
theorem put_end {w w3 : World} {dim : Int} {sl psl s3 : Value} {x : Int} (h : PBox w w3 dim sl x psl) :
  Row (((w3.setCell ⟨w.heap.size,1,none⟩ s3).setCell ⟨w.heap.size + 1 + 1,0,none⟩ (.int .i64 dim)).setCell ⟨w.heap.size + 1 + 1,1,none⟩ s3) (w.heap.size + 1 + 1) 40 [.int .i64 dim,s3] /\
  Below w.heap.size w (((w3.setCell ⟨w.heap.size,1,none⟩ s3).setCell ⟨w.heap.size + 1 + 1,0,none⟩ (.int .i64 dim)).setCell ⟨w.heap.size + 1 + 1,1,none⟩ s3) /\
  (∀ g,w.heap.size + 1 + 1 + 1 <= g -> (((w3.setCell ⟨w.heap.size,1,none⟩ s3).setCell ⟨w.heap.size + 1 + 1,0,none⟩ (.int .i64 dim)).setCell ⟨w.heap.size + 1 + 1,1,none⟩ s3).heap[g]? = w3.heap[g]?):=by
 refine ⟨((h.b2.keep (heap_set_ne w3 _ _ (by show w.heap.size + 1 + 1 ≠ w.heap.size;omega))).set 0 (.int .i64 dim)).set 1 s3,?_,fun g hg=>?_⟩
 ·exact below_setCell (below_setCell (below_setCell h.below (Nat.le_refl _) _) (by show w.heap.size <= w.heap.size + 1 + 1;omega) _) (by show w.heap.size <= w.heap.size + 1 + 1;omega) _
 ·rw [heap_set_ne _ _ _ (by show g ≠ w.heap.size + 1 + 1;omega),heap_set_ne _ _ _ (by show g ≠ w.heap.size + 1 + 1;omega),heap_set_ne _ _ _ (by show g ≠ w.heap.size;omega)]
theorem rput_yes {w : World} {P : Nat -> Prop} {A : Option Addr} {c dim : Nat} {l : List Pt} (h : DocW w P A c l) (hr : Rise (l.map bareP)) (hl : l.length <= 512) {p : Pt} (hp : PtIn w P p)
  (hck0 : ck p.2.2 dim = 0) (hroom : hasT p.1 (l.map bareP) = true \/ (l.map bareP).length < 512) :
  Calls Tryz.prog 67 #[.agg #[.int .i64 (dim : Int),.slice A l.length c],.agg #[.int .i64 p.1,.slice p.2.1.1 p.2.1.2.1 p.2.1.2.2]] w (RPutPost P dim l p.1 p.2.2 w):=by
 have hB:=PBox.new w (dim : Int) (.slice A l.length c) p.1 (.slice p.2.1.1 p.2.1.2.1 p.2.1.2.2)
 generalize hW : ((w.alloc (.cells #[.int .i64 (dim : Int),.slice A l.length c] 40)).alloc (.cells #[.int .i64 p.1,.slice p.2.1.1 p.2.1.2.1 p.2.1.2.2] 104)).alloc (.cells #[.int .i64 0,.slice none 0 0] 40) = W at *
 have HW:=Lib.hid hW
 clear hW
 have hck:=rcheck_any p.2.1.1 p.2.1.2.1 p.2.1.2.2 w.heap.size p.2.2 (dim : Int) W ((hp.reads h.lt).below hB.below) (by rw [hp.len];exact hp.max)
 rw [hck0] at hck
 have hcm:=h.cm
 unfold maxLen at hcm
 have hnc:=h.nc
 have hpl:=fun q=>rplace_any (c:=c) ((h.below hB.below).below (below_drewN (Below.refl _ W) q)).toPts (by omega) hr p.1
 have H:=Lib.hid (And.intro h (And.intro hr (And.intro hp (And.intro hck0 hroom))))
 have HB:=Lib.hid hB
 have y0:=hB.b0.cell (j:=0) rfl
 have y1:=hB.b0.cell (j:=1) rfl
 have p0:=hB.b1.cell (j:=0) rfl
 have p1:=hB.b1.cell (j:=1) rfl
 have l0:=hB.b0.lt
 have l1:=hB.b1.lt
 have l2:=hB.b2.lt
 have hrow:=h.row
 clear h hr hp hck0 hroom hB
 obtain ⟨n,hn⟩ : ∃ n,n = l.length:=⟨_,rfl⟩
 rw [<- hn] at hl hnc y1 hpl ⊢
 have HN:=Lib.hid hn
 clear hn
 go_enter Tryz.func67,Tryz.ntmps67
 go_wp2_with fail
 rw [HN.out,HW.out,<- HN.out]
 refine hck.mono ?_
 rintro e w1 ⟨rfl,q,rfl⟩
 clear hck
 go_wp2_with fail
 refine (hpl q).mono ?_
 rintro e w2 ⟨k,b,rfl,hplc,q2,rfl⟩
 clear hpl
 have hkn : k <= n:=by rw [HN.out];have:=hplc.le;simpa using this
 have hB2 : PBox w (W.drewN (q + q2)) (dim : Int) (.slice A l.length c) p.1 (.slice p.2.1.1 p.2.1.2.1 p.2.1.2.2):=HB.out.under (below_drewN (Below.refl W.heap.size W) (q + q2)) HB.out.le
 have hV0 : (W.drewN (q + q2)).heap.size = W.heap.size:=rfl
 obtain ⟨V,hV⟩ : ∃ V,V = W.drewN (q + q2):=⟨_,rfl⟩
 have HVE:=Lib.hid hV.symm
 rw [<- hV] at hB2
 have hDV:=H.out.1.below hB2.below
 rw [<- HN.out] at hB2
 have HV:=Lib.hid (And.intro hB2 hDV)
 have HPLC:=Lib.hid hplc
 have hbs : w.heap.size + 1 + 1 + 1 <= V.heap.size:=hB2.le
 have HRD:=Lib.hid (show Reads V V.heap.size 2 A n (pts l) by rw [HN.out];exact hDV.toPts.row)
 clear hplc hB2 hDV hV hV0
 have HBS:=Lib.hid hbs
 rcases hrow with ⟨rfl,rfl,hln⟩ | ⟨ad,rfl,_,_⟩
 ·have hn0 : n = 0:=by rw [HN.out,hln];rfl
  have hk0 : k = 0:=by omega
  have hbf : b = false:=by
   have:=HPLC.out.has
   rw [hln] at this
   exact this.symm
  subst hbf hk0
  have HRT:=Lib.hid (show Reads V V.heap.size 2 none 0 (pts (l.take 0)) from Reads.none_)
  have HRR:=Lib.hid (show Reads V V.heap.size 2 none 0 (pts (l.drop 0)) by rw [hln];exact Reads.none_)
  clear hln
  subst hn0
  go_wp2_with (first
   | (at_builtin;rw [HVE.out];refine append_pts rfl (.tmp 48) (.tmp 52) rfl V.heap.size (.slice none 0 0) 0 [] rfl (World.ownsRow_nil ..) V.heap.size _ 0 _ (l.take 0) rfl HRT.out (by omega) (Nat.le_refl _) ?_;intro v1 w1 hown1 hg1;rw [Nat.zero_add,List.nil_append] at hown1;have hb1 : Below V.heap.size V w1:=⟨hg1.os,hg1.tape,hg1.output,hg1.size,fun b hb=>hg1.block b hb (by simp [Value.ownBlock])⟩;have B1:=HV.out.1.under hb1 hbs;have p0:=B1.b1.cell (j:=0) rfl;have p1:=B1.b1.cell (j:=1) rfl;have pl:=B1.b1.lt;have H1:=Lib.hid (And.intro hown1 (And.intro hb1 B1));clear hown1 hg1 hb1 B1)
   | (at_builtin;refine append_pt rfl (.tmp 54) (.tmp 56) rfl V.heap.size v1 0 (l.take 0) p.1 p.2.1.1 p.2.1.2.1 p.2.1.2.2 p.2.2 rfl H1.out.1 _ rfl rfl (by omega) H1.out.2.1.size ?_;intro v2 w2 hown2 hg2 _;have hb2:=below_own H1.out.1 hg2 H1.out.2.1.size;have H2:=Lib.hid (And.intro hown2 (And.intro (H1.out.2.1.trans hb2) (H1.out.2.2.under hb2 hbs)));clear hown2 hg2 hb2)
   | (at_builtin;refine append_pts rfl (.tmp 58) (.tmp 59) rfl V.heap.size v2 (0 + 1) (l.take 0 ++ [p]) rfl H2.out.1 V.heap.size _ 0 _ (l.drop 0) rfl (HRR.out.below H2.out.2.1) (by omega) H2.out.2.1.size ?_;intro v3 w3 hown3 hg3;have hb3:=below_own H2.out.1 hg3 H2.out.2.1.size;obtain ⟨A3,c3,rfl,_,_⟩:=own_shape hown3;have B3:=H2.out.2.2.under hb3 hbs;have y0:=B3.b0.cell (j:=0) rfl;have y1:=B3.b0.cell (j:=1) rfl;have yf:=B3.b0.frozen 1;have yl:=B3.b0.lt;have r0:=B3.b2.cell (j:=0) rfl;have r1:=B3.b2.cell (j:=1) rfl;have rf0:=B3.b2.frozen 0;have rf1:=B3.b2.frozen 1;have rl:=B3.b2.lt;have H3:=Lib.hid (And.intro hown3 (And.intro (H2.out.2.1.trans hb3) B3));clear hown3 hg3 hb3 B3))
  obtain ⟨hrow,hbelow,hkeep⟩:=put_end (s3:=.slice A3 (0 + 1 + 0) c3) H3.out.2.2
  have g0:=hrow.cell (j:=0) rfl
  have g1:=hrow.cell (j:=1) rfl
  refine bodyPost_ret (v:=.tuple #[.agg #[.int .i64 (dim : Int),.slice A3 (0 + 1 + 0) c3],.bool false,.int .i64 0]) (by simp [results,Tryz.results67,go_sem,g0,g1]) rfl ?_
  exact RPutPost.new H.out.1 HPLC.out (p:=p) rfl H.out.2.2.1 H.out.2.2.2.1 H.out.2.2.2.2 (l2:=l.take 0 ++ [p] ++ l.drop 0) rfl (by rw [List.length_append,List.length_append,List.length_take,List.length_drop,<- HN.out];simp only [List.length_cons,List.length_nil];omega) H3.out.1 (by omega) (HV.out.1.below.trans (H3.out.2.1.mono (by omega))) hbelow (fun g h1 _=>hkeep g (by omega)) (by simp)
 ·have HRT:=Lib.hid (show Reads V V.heap.size 2 (some ad) k (pts (l.take k)) from by
   have:=HRD.out.pre hkn
   rwa [pts_take] at this)
  cases b with
  | false =>
   have hroomz : ¬ (512 : Int) <= (n : Int):=by
    have h1:=H.out.2.2.2.2
    rw [HPLC.out.has] at h1
    simp at h1
    have:=HN.out
    omega
   by_cases hck : c = k
   ·have HRR:=Lib.hid (show Reads V V.heap.size 2 (some ad) 0 (pts (l.drop k)) from by
     have h1 : l.drop k = []:=List.drop_eq_nil_of_le (by have:=HN.out;omega)
     rw [h1]
     exact ⟨rfl,fun h=>absurd h (by omega)⟩)
    have hnk : n = k:=by omega
    subst hck
    subst hnk
    go_wp2_with (first
     | (at_builtin;rw [HVE.out];refine append_pts rfl (.tmp 48) (.tmp 52) rfl V.heap.size (.slice none 0 0) 0 [] rfl (World.ownsRow_nil ..) V.heap.size _ n _ (l.take n) rfl HRT.out (by omega) (Nat.le_refl _) ?_;intro v1 w1 hown1 hg1;rw [Nat.zero_add,List.nil_append] at hown1;have hb1 : Below V.heap.size V w1:=⟨hg1.os,hg1.tape,hg1.output,hg1.size,fun b hb=>hg1.block b hb (by simp [Value.ownBlock])⟩;have B1:=HV.out.1.under hb1 hbs;have p0:=B1.b1.cell (j:=0) rfl;have p1:=B1.b1.cell (j:=1) rfl;have pl:=B1.b1.lt;have H1:=Lib.hid (And.intro hown1 (And.intro hb1 B1));clear hown1 hg1 hb1 B1)
     | (at_builtin;refine append_pt rfl (.tmp 54) (.tmp 56) rfl V.heap.size v1 n (l.take n) p.1 p.2.1.1 p.2.1.2.1 p.2.1.2.2 p.2.2 rfl H1.out.1 _ rfl rfl (by omega) H1.out.2.1.size ?_;intro v2 w2 hown2 hg2 _;have hb2:=below_own H1.out.1 hg2 H1.out.2.1.size;have H2:=Lib.hid (And.intro hown2 (And.intro (H1.out.2.1.trans hb2) (H1.out.2.2.under hb2 hbs)));clear hown2 hg2 hb2)
     | (at_builtin;refine append_pts rfl (.tmp 58) (.tmp 59) rfl V.heap.size v2 (n + 1) (l.take n ++ [p]) rfl H2.out.1 V.heap.size _ 0 _ (l.drop n) rfl (HRR.out.below H2.out.2.1) (by omega) H2.out.2.1.size ?_;intro v3 w3 hown3 hg3;have hb3:=below_own H2.out.1 hg3 H2.out.2.1.size;obtain ⟨A3,c3,rfl,_,_⟩:=own_shape hown3;have B3:=H2.out.2.2.under hb3 hbs;have y0:=B3.b0.cell (j:=0) rfl;have y1:=B3.b0.cell (j:=1) rfl;have yf:=B3.b0.frozen 1;have yl:=B3.b0.lt;have r0:=B3.b2.cell (j:=0) rfl;have r1:=B3.b2.cell (j:=1) rfl;have rf0:=B3.b2.frozen 0;have rf1:=B3.b2.frozen 1;have rl:=B3.b2.lt;have H3:=Lib.hid (And.intro hown3 (And.intro (H2.out.2.1.trans hb3) B3));clear hown3 hg3 hb3 B3))
    obtain ⟨hrow,hbelow,hkeep⟩:=put_end (s3:=.slice A3 (n + 1 + 0) c3) H3.out.2.2
    have g0:=hrow.cell (j:=0) rfl
    have g1:=hrow.cell (j:=1) rfl
    refine bodyPost_ret (v:=.tuple #[.agg #[.int .i64 (dim : Int),.slice A3 (n + 1 + 0) c3],.bool false,.int .i64 0]) (by simp [results,Tryz.results67,go_sem,g0,g1]) rfl ?_
    exact RPutPost.new H.out.1 HPLC.out (p:=p) rfl H.out.2.2.1 H.out.2.2.2.1 H.out.2.2.2.2 (l2:=l.take n ++ [p] ++ l.drop n) rfl (by rw [List.length_append,List.length_append,List.length_take,List.length_drop,<- HN.out];simp only [List.length_cons,List.length_nil];omega) H3.out.1 (by omega) (HV.out.1.below.trans (H3.out.2.1.mono (by omega))) hbelow (fun g h1 _=>hkeep g (by omega)) (by simp)
   ·have HRR:=Lib.hid (show Reads V V.heap.size 2 (some (ad.add (k * 2))) (n - k) (pts (l.drop k)) from by
     have:=HRD.out.cut (cap:=c) hkn hnc
     rw [if_neg hck,pts_drop] at this
     exact this)
    go_wp2_with (first
     | (at_builtin;rw [HVE.out];refine append_pts rfl (.tmp 48) (.tmp 52) rfl V.heap.size (.slice none 0 0) 0 [] rfl (World.ownsRow_nil ..) V.heap.size _ k _ (l.take k) rfl HRT.out (by omega) (Nat.le_refl _) ?_;intro v1 w1 hown1 hg1;rw [Nat.zero_add,List.nil_append] at hown1;have hb1 : Below V.heap.size V w1:=⟨hg1.os,hg1.tape,hg1.output,hg1.size,fun b hb=>hg1.block b hb (by simp [Value.ownBlock])⟩;have B1:=HV.out.1.under hb1 hbs;have p0:=B1.b1.cell (j:=0) rfl;have p1:=B1.b1.cell (j:=1) rfl;have pl:=B1.b1.lt;have H1:=Lib.hid (And.intro hown1 (And.intro hb1 B1));clear hown1 hg1 hb1 B1)
     | (at_builtin;refine append_pt rfl (.tmp 54) (.tmp 56) rfl V.heap.size v1 k (l.take k) p.1 p.2.1.1 p.2.1.2.1 p.2.1.2.2 p.2.2 rfl H1.out.1 _ rfl rfl (by omega) H1.out.2.1.size ?_;intro v2 w2 hown2 hg2 _;have hb2:=below_own H1.out.1 hg2 H1.out.2.1.size;have H2:=Lib.hid (And.intro hown2 (And.intro (H1.out.2.1.trans hb2) (H1.out.2.2.under hb2 hbs)));clear hown2 hg2 hb2)
     | (at_builtin;refine append_pts rfl (.tmp 58) (.tmp 59) rfl V.heap.size v2 (k + 1) (l.take k ++ [p]) rfl H2.out.1 V.heap.size _ (n - k) _ (l.drop k) rfl (HRR.out.below H2.out.2.1) (by omega) H2.out.2.1.size ?_;intro v3 w3 hown3 hg3;have hb3:=below_own H2.out.1 hg3 H2.out.2.1.size;obtain ⟨A3,c3,rfl,_,_⟩:=own_shape hown3;have B3:=H2.out.2.2.under hb3 hbs;have y0:=B3.b0.cell (j:=0) rfl;have y1:=B3.b0.cell (j:=1) rfl;have yf:=B3.b0.frozen 1;have yl:=B3.b0.lt;have r0:=B3.b2.cell (j:=0) rfl;have r1:=B3.b2.cell (j:=1) rfl;have rf0:=B3.b2.frozen 0;have rf1:=B3.b2.frozen 1;have rl:=B3.b2.lt;have H3:=Lib.hid (And.intro hown3 (And.intro (H2.out.2.1.trans hb3) B3));clear hown3 hg3 hb3 B3))
    obtain ⟨hrow,hbelow,hkeep⟩:=put_end (s3:=.slice A3 (k + 1 + (n - k)) c3) H3.out.2.2
    have g0:=hrow.cell (j:=0) rfl
    have g1:=hrow.cell (j:=1) rfl
    refine bodyPost_ret (v:=.tuple #[.agg #[.int .i64 (dim : Int),.slice A3 (k + 1 + (n - k)) c3],.bool false,.int .i64 0]) (by simp [results,Tryz.results67,go_sem,g0,g1]) rfl ?_
    exact RPutPost.new H.out.1 HPLC.out (p:=p) rfl H.out.2.2.1 H.out.2.2.2.1 H.out.2.2.2.2 (l2:=l.take k ++ [p] ++ l.drop k) rfl (by rw [List.length_append,List.length_append,List.length_take,List.length_drop,<- HN.out];simp only [List.length_cons,List.length_nil];omega) H3.out.1 (by omega) (HV.out.1.below.trans (H3.out.2.1.mono (by omega))) hbelow (fun g h1 _=>hkeep g (by omega)) (by simp)
  | true =>
   have hkn1 : k + 1 <= n:=by
    obtain ⟨v,r,e,_⟩:=HPLC.out.yes rfl
    have:=congrArg List.length e
    rw [List.length_drop,List.length_map,List.length_cons,<- HN.out] at this
    omega
   have hck0 : ¬ c = k:=by omega
   by_cases hck : c = k + 1
   ·have HRR:=Lib.hid (show Reads V V.heap.size 2 (some ad) 0 (pts (l.drop (k + 1))) from by
     have h1 : l.drop (k + 1) = []:=List.drop_eq_nil_of_le (by have:=HN.out;omega)
     rw [h1]
     exact ⟨rfl,fun h=>absurd h (by omega)⟩)
    have hnk : n = k + 1:=by omega
    subst hck
    subst hnk
    go_wp2_with (first
     | (at_builtin;rw [HVE.out];refine append_pts rfl (.tmp 48) (.tmp 52) rfl V.heap.size (.slice none 0 0) 0 [] rfl (World.ownsRow_nil ..) V.heap.size _ k _ (l.take k) rfl HRT.out (by omega) (Nat.le_refl _) ?_;intro v1 w1 hown1 hg1;rw [Nat.zero_add,List.nil_append] at hown1;have hb1 : Below V.heap.size V w1:=⟨hg1.os,hg1.tape,hg1.output,hg1.size,fun b hb=>hg1.block b hb (by simp [Value.ownBlock])⟩;have B1:=HV.out.1.under hb1 hbs;have p0:=B1.b1.cell (j:=0) rfl;have p1:=B1.b1.cell (j:=1) rfl;have pl:=B1.b1.lt;have H1:=Lib.hid (And.intro hown1 (And.intro hb1 B1));clear hown1 hg1 hb1 B1)
     | (at_builtin;refine append_pt rfl (.tmp 54) (.tmp 56) rfl V.heap.size v1 k (l.take k) p.1 p.2.1.1 p.2.1.2.1 p.2.1.2.2 p.2.2 rfl H1.out.1 _ rfl rfl (by omega) H1.out.2.1.size ?_;intro v2 w2 hown2 hg2 _;have hb2:=below_own H1.out.1 hg2 H1.out.2.1.size;have H2:=Lib.hid (And.intro hown2 (And.intro (H1.out.2.1.trans hb2) (H1.out.2.2.under hb2 hbs)));clear hown2 hg2 hb2)
     | (at_builtin;refine append_pts rfl (.tmp 58) (.tmp 59) rfl V.heap.size v2 (k + 1) (l.take k ++ [p]) rfl H2.out.1 V.heap.size _ 0 _ (l.drop (k + 1)) rfl (HRR.out.below H2.out.2.1) (by omega) H2.out.2.1.size ?_;intro v3 w3 hown3 hg3;have hb3:=below_own H2.out.1 hg3 H2.out.2.1.size;obtain ⟨A3,c3,rfl,_,_⟩:=own_shape hown3;have B3:=H2.out.2.2.under hb3 hbs;have y0:=B3.b0.cell (j:=0) rfl;have y1:=B3.b0.cell (j:=1) rfl;have yf:=B3.b0.frozen 1;have yl:=B3.b0.lt;have r0:=B3.b2.cell (j:=0) rfl;have r1:=B3.b2.cell (j:=1) rfl;have rf0:=B3.b2.frozen 0;have rf1:=B3.b2.frozen 1;have rl:=B3.b2.lt;have H3:=Lib.hid (And.intro hown3 (And.intro (H2.out.2.1.trans hb3) B3));clear hown3 hg3 hb3 B3))
    obtain ⟨hrow,hbelow,hkeep⟩:=put_end (s3:=.slice A3 (k + 1 + 0) c3) H3.out.2.2
    have g0:=hrow.cell (j:=0) rfl
    have g1:=hrow.cell (j:=1) rfl
    refine bodyPost_ret (v:=.tuple #[.agg #[.int .i64 (dim : Int),.slice A3 (k + 1 + 0) c3],.bool true,.int .i64 0]) (by simp [results,Tryz.results67,go_sem,g0,g1]) rfl ?_
    exact RPutPost.new H.out.1 HPLC.out (p:=p) rfl H.out.2.2.1 H.out.2.2.2.1 H.out.2.2.2.2 (l2:=l.take k ++ [p] ++ l.drop (k + 1)) rfl (by rw [List.length_append,List.length_append,List.length_take,List.length_drop,<- HN.out];simp only [List.length_cons,List.length_nil];omega) H3.out.1 (by omega) (HV.out.1.below.trans (H3.out.2.1.mono (by omega))) hbelow (fun g h1 _=>hkeep g (by omega)) (by simp)
   ·have HRR:=Lib.hid (show Reads V V.heap.size 2 (some (ad.add ((k + 1) * 2))) (n - (k + 1)) (pts (l.drop (k + 1))) from by
     have:=HRD.out.cut (cap:=c) hkn1 hnc
     rw [if_neg hck,pts_drop] at this
     exact this)
    have hkz : (k : Int) + 1 < (c : Int):=by omega
    go_wp2_with (first
     | (at_builtin;rw [HVE.out];refine append_pts rfl (.tmp 48) (.tmp 52) rfl V.heap.size (.slice none 0 0) 0 [] rfl (World.ownsRow_nil ..) V.heap.size _ k _ (l.take k) rfl HRT.out (by omega) (Nat.le_refl _) ?_;intro v1 w1 hown1 hg1;rw [Nat.zero_add,List.nil_append] at hown1;have hb1 : Below V.heap.size V w1:=⟨hg1.os,hg1.tape,hg1.output,hg1.size,fun b hb=>hg1.block b hb (by simp [Value.ownBlock])⟩;have B1:=HV.out.1.under hb1 hbs;have p0:=B1.b1.cell (j:=0) rfl;have p1:=B1.b1.cell (j:=1) rfl;have pl:=B1.b1.lt;have H1:=Lib.hid (And.intro hown1 (And.intro hb1 B1));clear hown1 hg1 hb1 B1)
     | (at_builtin;refine append_pt rfl (.tmp 54) (.tmp 56) rfl V.heap.size v1 k (l.take k) p.1 p.2.1.1 p.2.1.2.1 p.2.1.2.2 p.2.2 rfl H1.out.1 _ rfl rfl (by omega) H1.out.2.1.size ?_;intro v2 w2 hown2 hg2 _;have hb2:=below_own H1.out.1 hg2 H1.out.2.1.size;have H2:=Lib.hid (And.intro hown2 (And.intro (H1.out.2.1.trans hb2) (H1.out.2.2.under hb2 hbs)));clear hown2 hg2 hb2)
     | (at_builtin;refine append_pts rfl (.tmp 58) (.tmp 59) rfl V.heap.size v2 (k + 1) (l.take k ++ [p]) rfl H2.out.1 V.heap.size _ (n - (k + 1)) _ (l.drop (k + 1)) rfl (HRR.out.below H2.out.2.1) (by omega) H2.out.2.1.size ?_;intro v3 w3 hown3 hg3;have hb3:=below_own H2.out.1 hg3 H2.out.2.1.size;obtain ⟨A3,c3,rfl,_,_⟩:=own_shape hown3;have B3:=H2.out.2.2.under hb3 hbs;have y0:=B3.b0.cell (j:=0) rfl;have y1:=B3.b0.cell (j:=1) rfl;have yf:=B3.b0.frozen 1;have yl:=B3.b0.lt;have r0:=B3.b2.cell (j:=0) rfl;have r1:=B3.b2.cell (j:=1) rfl;have rf0:=B3.b2.frozen 0;have rf1:=B3.b2.frozen 1;have rl:=B3.b2.lt;have H3:=Lib.hid (And.intro hown3 (And.intro (H2.out.2.1.trans hb3) B3));clear hown3 hg3 hb3 B3))
    obtain ⟨hrow,hbelow,hkeep⟩:=put_end (s3:=.slice A3 n c3) H3.out.2.2
    have g0:=hrow.cell (j:=0) rfl
    have g1:=hrow.cell (j:=1) rfl
    refine bodyPost_ret (v:=.tuple #[.agg #[.int .i64 (dim : Int),.slice A3 n c3],.bool true,.int .i64 0]) (by simp [results,Tryz.results67,go_sem,g0,g1]) rfl ?_
    exact RPutPost.new H.out.1 HPLC.out (p:=p) rfl H.out.2.2.1 H.out.2.2.2.1 H.out.2.2.2.2 (l2:=l.take k ++ [p] ++ l.drop (k + 1)) rfl (by rw [List.length_append,List.length_append,List.length_take,List.length_drop,<- HN.out];simp only [List.length_cons,List.length_nil];omega) (by have:=H3.out.1;rwa [show k + 1 + (n - (k + 1)) = n by omega] at this) (by omega) (HV.out.1.below.trans (H3.out.2.1.mono (by omega))) hbelow (fun g h1 _=>hkeep g (by omega)) (by simp)
end
section
open Go Go.RowKit Go.Maps
theorem rput_any {w : World} {P : Nat -> Prop} {A : Option Addr} {c dim : Nat} {l : List Pt} (h : DocW w P A c l) (hr : Rise (l.map bareP)) (hl : l.length <= 512) {p : Pt} (hp : PtIn w P p) :
  Calls Tryz.prog 67 #[.agg #[.int .i64 (dim : Int),.slice A l.length c],.agg #[.int .i64 p.1,.slice p.2.1.1 p.2.1.2.1 p.2.1.2.2]] w (RPutPost P dim l p.1 p.2.2 w):=by
 by_cases hck : ck p.2.2 dim = 0
 ·by_cases hroom : hasT p.1 (l.map bareP) = true \/ (l.map bareP).length < 512
  ·exact rput_yes h hr hl hp hck hroom
  ·refine rput_no h hr hl hp (.inr ⟨hck,?_,?_⟩)
   ·cases hh : hasT p.1 (l.map bareP) with
    | true=>exact absurd (.inl hh) hroom
    | false=>rfl
   ·have : ¬ (l.map bareP).length < 512:=fun h=>hroom (.inr h)
    simpa using this
 ·exact rput_no h hr hl hp (.inl hck)
def RDropPost (P : Nat -> Prop) (dim : Nat) (l : List Pt) (x : Int) (w : World) (e : Ending) (w' : World) : Prop :=
 ∃ (A' : Option Addr) (c' : Nat) (l' : List Pt),e = .returned (.tuple #[.agg #[.int .i64 (dim : Int),.slice A' l'.length c'],.bool (hasT x (l.map bareP))]) /\ DocW w' (NewP P w w') A' c' l' /\ l'.map bareP = delT x (l.map bareP) /\ Below w.heap.size w w'
theorem RDropPost.new {P : Nat -> Prop} {dim : Nat} {A A2 : Option Addr} {c c2 n2 base k : Nat} {l l2 : List Pt} {x : Int} {w w2 w' : World} (h : DocW w P A c l) (hp : Plc (l.map bareP) x k true)
  (hl2 : l2 = l.take k ++ l.drop (k + 1)) (hn : n2 = l2.length) (ho : w2.ownsRow base 104 2 (.slice A2 n2 c2) n2 (pts l2)) (hbase : w.heap.size <= base) (hb2 : Below w.heap.size w w') (hkeep : ∀ g,base <= g -> g < w2.heap.size -> w'.heap[g]? = w2.heap[g]?) :
  RDropPost P dim l x w (.returned (.tuple #[.agg #[.int .i64 (dim : Int),.slice A2 n2 c2],.bool true])) w':=by
 refine ⟨A2,c2,l2,by rw [hp.has,hn],?_,?_,hb2⟩
 ·have ho' : w'.ownsRow base 104 2 (.slice A2 n2 c2) n2 (pts l2):=own_keep ho (fun g hg=>hkeep g (ho.lt g hg).1 (ho.lt g hg).2)
  refine DocW.of_own ho' hn (fun q hq=>?_) (newP_lt h.lt hb2.size) (fun g h1 h2=>.inr ⟨by omega,h2⟩)
  have hq' : PtIn w P q:=by
   rw [hl2] at hq
   rcases List.mem_append.1 hq with hq | hq
   ·exact h.allp q (List.mem_of_mem_take hq)
   ·exact h.allp q (List.mem_of_mem_drop hq)
  exact (hq'.keep (fun b hP=>hb2.block b (h.lt b hP))).more (fun b hP=>.inl hP)
 ·rw [hl2,List.map_append,List.map_take,List.map_drop,hp.del]
structure DBox (w W : World) (dim : Int) (sl : Value) : Prop where
 b0 : Row W w.heap.size 40 [.int .i64 dim,sl]
 b2 : Row W (w.heap.size + 1) 40 [.int .i64 0,.slice none 0 0]
 below : Below w.heap.size w W
 le : w.heap.size + 2 <= W.heap.size
theorem DBox.new (w : World) (dim : Int) (sl : Value) : DBox w ((w.alloc (.cells #[.int .i64 dim,sl] 40)).alloc (.cells #[.int .i64 0,.slice none 0 0] 40)) dim sl:=by
 have e1 : (w.alloc (.cells #[.int .i64 dim,sl] 40)).heap.size = w.heap.size + 1:=by simp
 refine ⟨(Row.new w 40 [.int .i64 dim,sl]).keep (heap_alloc_lt _ _ (by omega)),?_,((Below.refl _ w).alloc (Nat.le_refl _) _).alloc (by omega) _,by simp⟩
 have:=Row.new (w.alloc (.cells #[.int .i64 dim,sl] 40)) 40 [.int .i64 0,.slice none 0 0]
 rw [e1] at this
 exact this
theorem DBox.under {w W W' : World} {dim : Int} {sl : Value} (h : DBox w W dim sl) {B : Nat} (hb : Below B W W') (hB : w.heap.size + 2 <= B) : DBox w W' dim sl :=
 ⟨h.b0.keep (hb.block _ (by omega)),h.b2.keep (hb.block _ (by omega)),h.below.trans (hb.mono (by omega)),Nat.le_trans h.le hb.size⟩
theorem drop_end {w w3 : World} {dim : Int} {sl s3 : Value} (h : DBox w w3 dim sl) :
  Row (((w3.setCell ⟨w.heap.size,1,none⟩ s3).setCell ⟨w.heap.size + 1,0,none⟩ (.int .i64 dim)).setCell ⟨w.heap.size + 1,1,none⟩ s3) (w.heap.size + 1) 40 [.int .i64 dim,s3] /\
  Below w.heap.size w (((w3.setCell ⟨w.heap.size,1,none⟩ s3).setCell ⟨w.heap.size + 1,0,none⟩ (.int .i64 dim)).setCell ⟨w.heap.size + 1,1,none⟩ s3) /\
  (∀ g,w.heap.size + 2 <= g -> (((w3.setCell ⟨w.heap.size,1,none⟩ s3).setCell ⟨w.heap.size + 1,0,none⟩ (.int .i64 dim)).setCell ⟨w.heap.size + 1,1,none⟩ s3).heap[g]? = w3.heap[g]?):=by
 refine ⟨((h.b2.keep (heap_set_ne w3 _ _ (by show w.heap.size + 1 ≠ w.heap.size;omega))).set 0 (.int .i64 dim)).set 1 s3,?_,fun g hg=>?_⟩
 ·exact below_setCell (below_setCell (below_setCell h.below (Nat.le_refl _) _) (by show w.heap.size <= w.heap.size + 1;omega) _) (by show w.heap.size <= w.heap.size + 1;omega) _
 ·rw [heap_set_ne _ _ _ (by show g ≠ w.heap.size + 1;omega),heap_set_ne _ _ _ (by show g ≠ w.heap.size + 1;omega),heap_set_ne _ _ _ (by show g ≠ w.heap.size;omega)]
theorem rdrop_any {w : World} {P : Nat -> Prop} {A : Option Addr} {c dim : Nat} {l : List Pt} (h : DocW w P A c l) (hr : Rise (l.map bareP)) (hl : l.length <= 512) (x : Int) :
  Calls Tryz.prog 68 #[.agg #[.int .i64 (dim : Int),.slice A l.length c],.int .i64 x] w (RDropPost P dim l x w):=by
 have hB:=DBox.new w (dim : Int) (.slice A l.length c)
 generalize hW : (w.alloc (.cells #[.int .i64 (dim : Int),.slice A l.length c] 40)).alloc (.cells #[.int .i64 0,.slice none 0 0] 40) = W at *
 have HW:=Lib.hid hW
 clear hW
 have hcm:=h.cm
 unfold maxLen at hcm
 have hnc:=h.nc
 have hpl:=rplace_any (c:=c) (h.below hB.below).toPts (by omega) hr x
 have H:=Lib.hid (And.intro h hr)
 have HB:=Lib.hid hB
 have y0:=hB.b0.cell (j:=0) rfl
 have y1:=hB.b0.cell (j:=1) rfl
 have l0:=hB.b0.lt
 have l2:=hB.b2.lt
 have r0:=hB.b2.cell (j:=0) rfl
 have r1:=hB.b2.cell (j:=1) rfl
 have rf0:=hB.b2.frozen 0
 have rf1:=hB.b2.frozen 1
 have hrow:=h.row
 clear h hr hB
 obtain ⟨n,hn⟩ : ∃ n,n = l.length:=⟨_,rfl⟩
 rw [<- hn] at hl hnc y1 hpl ⊢
 have HN:=Lib.hid hn
 clear hn
 go_enter Tryz.func68,Tryz.ntmps68
 go_wp2_with fail
 rw [HN.out,HW.out,<- HN.out]
 refine hpl.mono ?_
 rintro e w2 ⟨k,b,rfl,hplc,q2,rfl⟩
 clear hpl
 have hkn : k <= n:=by rw [HN.out];have:=hplc.le;simpa using this
 have hB2 : DBox w (W.drewN q2) (dim : Int) (.slice A l.length c):=HB.out.under (below_drewN (Below.refl W.heap.size W) q2) HB.out.le
 obtain ⟨V,hV⟩ : ∃ V,V = W.drewN q2:=⟨_,rfl⟩
 have HVE:=Lib.hid hV.symm
 rw [<- hV] at hB2
 have hDV:=H.out.1.below hB2.below
 rw [<- HN.out] at hB2
 have HV:=Lib.hid (And.intro hB2 hDV)
 have HPLC:=Lib.hid hplc
 have hbs : w.heap.size + 2 <= V.heap.size:=hB2.le
 have HRD:=Lib.hid (show Reads V V.heap.size 2 A n (pts l) by rw [HN.out];exact hDV.toPts.row)
 clear hplc hB2 hDV hV
 cases b with
 | false =>
  have hE : Row (((W.drewN q2).setCell ⟨w.heap.size + 1,0,none⟩ (.int .i64 (dim : Int))).setCell ⟨w.heap.size + 1,1,none⟩ (.slice A n c)) (w.heap.size + 1) 40 [.int .i64 (dim : Int),.slice A n c]:=by
   rw [HVE.out]
   exact (HV.out.1.b2.set 0 _).set 1 _
  have hBel : Below w.heap.size w (((W.drewN q2).setCell ⟨w.heap.size + 1,0,none⟩ (.int .i64 (dim : Int))).setCell ⟨w.heap.size + 1,1,none⟩ (.slice A n c)):=by
   rw [HVE.out]
   exact below_setCell (below_setCell HV.out.1.below (by show w.heap.size <= w.heap.size + 1;omega) _) (by show w.heap.size <= w.heap.size + 1;omega) _
  have HE:=Lib.hid (And.intro hE hBel)
  clear hE hBel
  go_wp2_with fail
  have g0:=HE.out.1.cell (j:=0) rfl
  have g1:=HE.out.1.cell (j:=1) rfl
  refine bodyPost_ret (v:=.tuple #[.agg #[.int .i64 (dim : Int),.slice A n c],.bool false]) (by simp [results,Tryz.results68,go_sem,g0,g1]) rfl ?_
  exact ⟨A,c,l,by rw [HPLC.out.has,HN.out],(H.out.1.below HE.out.2).more (fun b hP=>.inl hP) (newP_lt H.out.1.lt HE.out.2.size),HPLC.out.del_no.symm,HE.out.2⟩
 | true =>
  have hkn1 : k + 1 <= n:=by
   obtain ⟨v,r,e,_⟩:=HPLC.out.yes rfl
   have:=congrArg List.length e
   rw [List.length_drop,List.length_map,List.length_cons,<- HN.out] at this
   omega
  rcases hrow with ⟨_,_,hln⟩ | ⟨ad,rfl,_,_⟩
  ·rw [HN.out,hln] at hkn1
   simp at hkn1
  ·have HRT:=Lib.hid (show Reads V V.heap.size 2 (some ad) k (pts (l.take k)) from by
    have:=HRD.out.pre hkn
    rwa [pts_take] at this)
   have hck0 : ¬ c = k:=by omega
   by_cases hck : c = k + 1
   ·have HRR:=Lib.hid (show Reads V V.heap.size 2 (some ad) 0 (pts (l.drop (k + 1))) from by
     have h1 : l.drop (k + 1) = []:=List.drop_eq_nil_of_le (by have:=HN.out;omega)
     rw [h1]
     exact ⟨rfl,fun h=>absurd h (by omega)⟩)
    have hnk : n = k + 1:=by omega
    subst hck
    subst hnk
    go_wp2_with (first
     | (at_builtin;rw [HVE.out];refine append_pts rfl (.tmp 19) (.tmp 23) rfl V.heap.size (.slice none 0 0) 0 [] rfl (World.ownsRow_nil ..) V.heap.size _ k _ (l.take k) rfl HRT.out (by omega) (Nat.le_refl _) ?_;intro v1 w1 hown1 hg1;rw [Nat.zero_add,List.nil_append] at hown1;have hb1 : Below V.heap.size V w1:=⟨hg1.os,hg1.tape,hg1.output,hg1.size,fun b hb=>hg1.block b hb (by simp [Value.ownBlock])⟩;have B1:=HV.out.1.under hb1 hbs;have p0:=B1.b0.cell (j:=0) rfl;have p1:=B1.b0.cell (j:=1) rfl;have pl:=B1.b0.lt;have H1:=Lib.hid (And.intro hown1 (And.intro hb1 B1));clear hown1 hg1 hb1 B1)
     | (at_builtin;refine append_pts rfl (.tmp 25) (.tmp 30) rfl V.heap.size v1 k (l.take k) rfl H1.out.1 V.heap.size _ 0 _ (l.drop (k + 1)) rfl (HRR.out.below H1.out.2.1) (by omega) H1.out.2.1.size ?_;intro v3 w3 hown3 hg3;have hb3:=below_own H1.out.1 hg3 H1.out.2.1.size;obtain ⟨A3,c3,rfl,_,_⟩:=own_shape hown3;have B3:=H1.out.2.2.under hb3 hbs;have y0:=B3.b0.cell (j:=0) rfl;have y1:=B3.b0.cell (j:=1) rfl;have yf:=B3.b0.frozen 1;have yl:=B3.b0.lt;have r0:=B3.b2.cell (j:=0) rfl;have r1:=B3.b2.cell (j:=1) rfl;have rf0:=B3.b2.frozen 0;have rf1:=B3.b2.frozen 1;have rl:=B3.b2.lt;have H3:=Lib.hid (And.intro hown3 (And.intro (H1.out.2.1.trans hb3) B3));clear hown3 hg3 hb3 B3))
    obtain ⟨hrow,hbelow,hkeep⟩:=drop_end (s3:=.slice A3 k c3) H3.out.2.2
    have g0:=hrow.cell (j:=0) rfl
    have g1:=hrow.cell (j:=1) rfl
    refine bodyPost_ret (v:=.tuple #[.agg #[.int .i64 (dim : Int),.slice A3 k c3],.bool true]) (by simp [results,Tryz.results68,go_sem,g0,g1]) rfl ?_
    exact RDropPost.new H.out.1 HPLC.out (l2:=l.take k ++ l.drop (k + 1)) rfl (by rw [List.length_append,List.length_take,List.length_drop,<- HN.out];omega) H3.out.1 (by omega) hbelow (fun g h1 _=>hkeep g (by omega))
   ·have HRR:=Lib.hid (show Reads V V.heap.size 2 (some (ad.add ((k + 1) * 2))) (n - (k + 1)) (pts (l.drop (k + 1))) from by
     have:=HRD.out.cut (cap:=c) hkn1 hnc
     rw [if_neg hck,pts_drop] at this
     exact this)
    have hkz : (k : Int) + 1 < (c : Int):=by omega
    go_wp2_with (first
     | (at_builtin;rw [HVE.out];refine append_pts rfl (.tmp 19) (.tmp 23) rfl V.heap.size (.slice none 0 0) 0 [] rfl (World.ownsRow_nil ..) V.heap.size _ k _ (l.take k) rfl HRT.out (by omega) (Nat.le_refl _) ?_;intro v1 w1 hown1 hg1;rw [Nat.zero_add,List.nil_append] at hown1;have hb1 : Below V.heap.size V w1:=⟨hg1.os,hg1.tape,hg1.output,hg1.size,fun b hb=>hg1.block b hb (by simp [Value.ownBlock])⟩;have B1:=HV.out.1.under hb1 hbs;have p0:=B1.b0.cell (j:=0) rfl;have p1:=B1.b0.cell (j:=1) rfl;have pl:=B1.b0.lt;have H1:=Lib.hid (And.intro hown1 (And.intro hb1 B1));clear hown1 hg1 hb1 B1)
     | (at_builtin;refine append_pts rfl (.tmp 25) (.tmp 30) rfl V.heap.size v1 k (l.take k) rfl H1.out.1 V.heap.size _ (n - (k + 1)) _ (l.drop (k + 1)) rfl (HRR.out.below H1.out.2.1) (by omega) H1.out.2.1.size ?_;intro v3 w3 hown3 hg3;have hb3:=below_own H1.out.1 hg3 H1.out.2.1.size;obtain ⟨A3,c3,rfl,_,_⟩:=own_shape hown3;have B3:=H1.out.2.2.under hb3 hbs;have y0:=B3.b0.cell (j:=0) rfl;have y1:=B3.b0.cell (j:=1) rfl;have yf:=B3.b0.frozen 1;have yl:=B3.b0.lt;have r0:=B3.b2.cell (j:=0) rfl;have r1:=B3.b2.cell (j:=1) rfl;have rf0:=B3.b2.frozen 0;have rf1:=B3.b2.frozen 1;have rl:=B3.b2.lt;have H3:=Lib.hid (And.intro hown3 (And.intro (H1.out.2.1.trans hb3) B3));clear hown3 hg3 hb3 B3))
    obtain ⟨hrow,hbelow,hkeep⟩:=drop_end (s3:=.slice A3 (k + (n - (k + 1))) c3) H3.out.2.2
    have g0:=hrow.cell (j:=0) rfl
    have g1:=hrow.cell (j:=1) rfl
    refine bodyPost_ret (v:=.tuple #[.agg #[.int .i64 (dim : Int),.slice A3 (k + (n - (k + 1))) c3],.bool true]) (by simp [results,Tryz.results68,go_sem,g0,g1]) rfl ?_
    exact RDropPost.new H.out.1 HPLC.out (l2:=l.take k ++ l.drop (k + 1)) rfl (by rw [List.length_append,List.length_take,List.length_drop,<- HN.out];omega) H3.out.1 (by omega) hbelow (fun g h1 _=>hkeep g (by omega))
end
section
open Go Go.RowKit
def RWPost (P : Nat -> Prop) (dm : Nat) (ep mv vr : Int) (T : List Pnt) (was : Bool) (q : List Be.E) (w : World) (e : Ending) (w' : World) : Prop :=
 ∃ (A' : Option Addr) (c' : Nat) (l' : List Pt),e = .returned (.tuple #[.agg (qV dm 2 ep mv vr (.slice A' l'.length c') q).toArray,.agg #[.int .i64 0,.bool was,.slice none 0 0],.int .i64 0]) /\ DocW w' (NewP P w w') A' c' l' /\ l'.map bareP = T /\ Below w.heap.size w w'
theorem rwrite_ins (dm : Nat) (ep mv vr cl sq x K : Int) (hv0 : 0 <= vr) (hv1 : vr < 1000000000) (q : List Be.E) (hok : Be.Okq q) (A A0 : Option Addr) (n c c0 : Nat) (l : List Pt) (vec : List Int) (was : Bool) (hq : q.length = 8) (rp : Int × Bool) (hre : Be.findM q cl sq = (rp,3)) (w : World) {P : Nat -> Prop} (hD : DocW w P A0 c0 l) (hr : Rise (l.map bareP)) (hl : l.length <= 512) (hp : PtIn w P (x,(A,n,c),vec)) (ha : putA dm x vec (l.map bareP) = (was,0)) :
  Calls Tryz.prog 35 #[.agg (qV dm 2 ep mv vr (.slice A0 l.length c0) q).toArray,.int .i64 cl,.int .i64 sq,.agg #[.int .i64 1,.int .i64 x,.slice A n c,.int .i64 K]] w (RWPost P dm ep mv (vr + 1) (putR dm x vec (l.map bareP)) was (Be.putM q cl sq 0 was).1 w):=by
 have HW:=Lib.hid (qw_new w (qV dm 2 ep mv vr (.slice A0 l.length c0) q) 1 x K A n c)
 have HQ:=Lib.hid hq
 have HOK:=Lib.hid hok
 have hwr : IntKind.i64.wrap (vr + 1) = vr + 1:=by simp only [IntKind.wrap_i64];omega
 have HFi:=Lib.hid (fun w1=>Be.rfind_any (w:=w1) hq cl sq)
 obtain ⟨rp1,rp2⟩:=rp
 rw [hre] at HFi
 have HPU:=Lib.hid (fun (w1 : World) (hb : Below w.heap.size w w1)=>rput_any (dim:=dm) (h:=hD.below hb) hr hl (hp.keep (fun b hP=>hb.block b (hD.lt b hP))))
 clear hq hre hr hp hok
 go_enter Tryz.func35,Tryz.ntmps35
 go_wp2_with (first | (refine ld_qtab HW.out.s HQ.out rfl _ rfl rfl ?_) | fail)
 refine (HFi.out _).mono ?_
 rintro e w2 ⟨rfl,hb2⟩
 have HW2:=Lib.hid (HW.out.on hb2)
 clear hb2
 have o0:=HW2.out.op.cell (j:=0) (u:=.int .i64 1) rfl
 have o1:=HW2.out.op.cell (j:=1) (u:=.int .i64 x) rfl
 have o2:=HW2.out.op.cell (j:=2) (u:=.slice A n c) rfl
 have ol:=HW2.out.op.lt
 have sl2:=HW2.out.s.lt
 have s1 : w2.cell? ⟨w.heap.size,1,none⟩ = some (.int .i64 2):=HW2.out.s.cell rfl
 unfold Be.repV
 have HV:=Lib.hid (HW2.out.on ((Below.refl _ _).alloc (Nat.le_refl _) (.cells #[.int .i64 rp1,.bool rp2,.slice none 0 0] 52)))
 go_wp2_with (first | (refine ld_qtree (by exact HV.out.s) rfl _ rfl rfl ?_) | fail)
 refine (HPU.out _ HV.out.bel).mono ?_
 rintro e w3 ⟨A3,c3,l3,rfl,hD3,hB3,hb3⟩
 rw [ha]
 have HW3:=Lib.hid (HV.out.on hb3)
 have HD3:=Lib.hid hD3
 have HB3:=Lib.hid hB3
 have t1:=HW3.out.s.lt
 clear hD3 hB3 hb3
 have HV4:=Lib.hid (HW3.out.on ((Below.refl _ _).alloc (Nat.le_refl _) (.cells #[.int .i64 dm,.slice A3 l3.length c3] 40)))
 have HDP:=Lib.hid (fun w1=>Be.rput_any (w:=w1) HQ.out cl sq 0 was (.slice none 0 0))
 go_wp2_with (first | (refine st_qtree (by exact HV4.out.s) HQ.out rfl rfl _ _ rfl rfl rfl ?_;intro W5 hr5 hs5 hg5) | (refine ld_qtab (by exact (hr5.keep (heap_alloc_lt _ _ hr5.lt))) HQ.out rfl _ rfl rfl ?_) | fail)
 refine (HDP.out _).mono ?_
 rintro e w6 ⟨rfl,hb6⟩
 have hop:=row_grown HV4.out.op hg5 (by omega)
 have h8:=row_grown HV4.out.r8 hg5 (by omega)
 have h9:=row_grown HV4.out.r9 hg5 (by omega)
 have hbe5 : Below w.heap.size w W5:=below_grown_new HV4.out.bel hg5 (by omega)
 have hnew:=Row.new W5 52 [.int .i64 0,.bool was,.slice none 0 0]
 have hba : Below w.heap.size w (W5.alloc (.cells #[.int .i64 0,.bool was,.slice none 0 0] 52)):=hbe5.alloc hbe5.size _
 have R6:=Lib.hid ((hr5.keep (heap_alloc_lt _ _ hr5.lt)).keep (hb6.block _ (by have:=hr5.lt;simp <;> omega)))
 have E6:=Lib.hid ((h8.keep (heap_alloc_lt _ _ h8.lt)).keep (hb6.block _ (by have:=h8.lt;simp <;> omega)))
 have N6:=Lib.hid ((h9.keep (heap_alloc_lt _ _ h9.lt)).keep (hb6.block _ (by have:=h9.lt;simp <;> omega)))
 have Y6:=Lib.hid (hnew.keep (hb6.block _ hnew.lt))
 have B6:=Lib.hid (hba.trans (hb6.mono hba.size))
 have HQ2:=Lib.hid (show (Be.putM q cl sq 0 was).1.length = 8 from (Be.putM_ok HOK.out _ _ _ _).len)
 have hsz:=hs5
 have HB6:=Lib.hid hb6
 clear hop h8 h9 hnew hba hb6
 go_wp2_with (first | (refine st_qtab (by exact R6.out) HQ.out HQ2.out rfl _ _ rfl rfl rfl ?_;intro W7 hr7 hs7 hg7;have v7 : W7.cell? ⟨w.heap.size,4,none⟩ = some (.int .i64 vr):=hr7.cell rfl;have vz:=hr7.frozen 4;have vl:=hr7.lt) | fail)
 have l5:=hr5.lt
 have hs6 : W5.heap.size = w3.heap.size + 1:=by rw [hs5];simp
 obtain ⟨W8,hW8⟩ : ∃ W8,W7.setCell ⟨w.heap.size,4,none⟩ (.int .i64 (vr + 1)) = W8:=⟨_,rfl⟩
 have S8 : Row W8 w.heap.size 46 (qV dm 2 ep mv (vr + 1) (.slice A3 l3.length c3) (Be.putM q cl sq 0 was).1):=by rw [<- hW8];exact hr7.set 4 _
 have E8 : Row W8 (w.heap.size + 1 + 1) 46 (qNew 0):=by rw [<- hW8];exact (row_grown E6.out hg7 (by omega)).keep (heap_set_ne _ _ _ (by simp <;> omega))
 have N8 : Row W8 (w.heap.size + 1 + 1 + 1) 52 [.int .i64 0,.bool false,.slice none 0 0]:=by rw [<- hW8];exact (row_grown N6.out hg7 (by omega)).keep (heap_set_ne _ _ _ (by simp <;> omega))
 have Y8 : Row W8 (w3.heap.size + 1) 52 [.int .i64 0,.bool was,.slice none 0 0]:=by rw [<- hW8,<- hs6];exact (row_grown Y6.out hg7 (by omega)).keep (heap_set_ne _ _ _ (by simp <;> omega))
 have HS8:=Lib.hid S8
 have HE8:=Lib.hid E8
 have HN8:=Lib.hid N8
 have HY8:=Lib.hid Y8
 have HYL:=Lib.hid (show (qV dm 2 ep mv (vr + 1) (.slice A3 l3.length c3) (Be.putM q cl sq 0 was).1).length = 31 from qV_len HQ2.out)
 have HYO:=Lib.hid (show ∀ v ∈ qV dm 2 ep mv (vr + 1) (.slice A3 l3.length c3) (Be.putM q cl sq 0 was).1,v.oneCell' = true from qV_one rfl)
 have hw3 : w.heap.size + 1 + 1 + 1 < w3.heap.size:=HW3.out.r9.lt
 subst hW8
 clear S8 E8 N8 Y8
 refine wp_region_held_drew (S:=(fun w'=>Row w' w.heap.size 46 (qV dm 2 ep mv (vr + 1) (.slice A3 l3.length c3) (Be.putM q cl sq 0 was).1) /\ Row w' (w3.heap.size + 1) 52 [.int .i64 0,.bool was,.slice none 0 0])) (by kernel_rfl) ?_ (fun hHeld=>?_)
 ·exact ⟨HS8.out,HY8.out⟩
 refine wpAnyH_take (i:=0) (oi:=⟨_,_,_,_,_,_⟩) (v:=?_) rfl (by kernel_rfl) (by kernel_rfl) (by kernel_rfl) (fun _ _ _ h=>h) (Or.inl ⟨by rfl,?_⟩) (by assumption) ?_
 rotate_left
 ·intro w' hSw;(refine yields_q10 hSw.1 HYL.out (.tmp 4) ?_ ?_) <;> rfl
 try simp only [Act.put,List.setIfInBounds_toArray,List.set_cons_zero,List.set_cons_succ]
 refine wpAnyH_take (i:=1) (oi:=⟨_,_,_,_,_,_⟩) (v:=?_) rfl (by kernel_rfl) (by kernel_rfl) (by kernel_rfl) (fun _ _ _ h=>h) (Or.inl ⟨by rfl,?_⟩) (by assumption) ?_
 rotate_left
 ·intro w' hSw;(refine yields_rep hSw.2 (.tmp 19) ?_ ?_) <;> rfl
 try simp only [Act.put,List.setIfInBounds_toArray,List.set_cons_zero,List.set_cons_succ]
 refine wpAnyH_ready (rs:=[2]) (by kernel_rfl) (by simp) ?_
 refine AllReadyH.cons (o:=⟨_,_,_,_,_,_⟩) rfl (fun K hK=>?_) AllReadyH.nil
 refine step_st_row (xs:=qNew 0) (ys:=qV dm 2 ep mv (vr + 1) (.slice A3 l3.length c3) (Be.putM q cl sq 0 was).1) (by exact HE8.out) HYL.out (by rw [HYL.out];exact q10_size) HYO.out rfl _ _ rfl rfl rfl ?_;intro W9 hr9 hs9 hg9;have N9:=Lib.hid (row_grown (by exact HN8.out) hg9 (by omega))
 refine hK.out _ _ ?_ (fun hHeld=>?_)
 ·exact ⟨row_grown (by exact HS8.out) hg9 (by omega),row_grown (by exact HY8.out) hg9 (by omega)⟩
 clear hK K
 try simp only [Act.put,List.setIfInBounds_toArray,List.set_cons_zero,List.set_cons_succ]
 refine wpAnyH_ready (rs:=[3]) (by kernel_rfl) (by simp) ?_
 refine AllReadyH.cons (o:=⟨_,_,_,_,_,_⟩) rfl (fun K hK=>?_) AllReadyH.nil
 refine step_st_row (xs:=[.int .i64 0,.bool false,.slice none 0 0]) (ys:=[.int .i64 0,.bool was,.slice none 0 0]) N9.out rfl (by kernel_rfl) (by intro v hv;simp only [List.mem_cons,List.not_mem_nil,or_false] at hv;rcases hv with rfl | rfl | rfl <;> rfl) rfl _ _ rfl rfl rfl ?_;intro WA hrA hsA hgA
 refine hK.out _ _ ?_ (fun hHeld=>?_)
 ·exact ⟨row_grown hHeld.1 hgA (by omega),row_grown hHeld.2 hgA (by omega)⟩
 clear hK K
 try simp only [Act.put,List.setIfInBounds_toArray,List.set_cons_zero,List.set_cons_succ]
 refine wpAnyH_ready (rs:=[4]) (by kernel_rfl) (by simp) ?_
 refine AllReadyH.cons (o:=⟨_,_,_,_,_,_⟩) rfl (fun K hK=>?_) AllReadyH.nil
 go_simp
 refine hK.out _ _ ?_ (fun hHeld=>?_)
 ·exact hHeld
 clear hK K
 try simp only [Act.put,List.setIfInBounds_toArray,List.set_cons_zero,List.set_cons_succ]
 refine wpAnyH_done (by kernel_rfl) ?_ _
 go_wp2_with fail
 refine bodyPost_ret (res_q10w Tryz.results35 _ (row_grown hr9 hgA (by omega)) HYL.out rfl hrA rfl rfl) rfl ?_
 have hbA : Below w.heap.size w WA:=below_grown_new (below_grown_new (((below_grown_new B6.out hg7 (Nat.le_refl _)).setCell (by simp) _).drew) hg9 (by omega)) hgA (by omega)
 have hwl:=HW2.out.r9.lt
 have hb6s : W5.heap.size + 1 <= w6.heap.size:=by have:=HB6.out.size;simpa using this
 have hsA2 : WA.heap.size = w6.heap.size:=by rw [hsA,hs9];simpa using hs7
 have hlt3:=HD3.out.lt
 have hne : ∀ b,NewP P (w2.alloc (.cells #[.int .i64 rp1,.bool rp2,.slice none 0 0] 52)) w3 b -> b < w3.heap.size /\ b ≠ w.heap.size /\ b ≠ w.heap.size + 1 + 1 /\ b ≠ w.heap.size + 1 + 1 + 1:=fun b hb=>by
  refine ⟨hlt3 b hb,?_⟩
  rcases hb with hb | ⟨hb,_⟩
  ·have:=hD.lt b hb
   omega
  ·simp at hb
   omega
 refine ⟨A3,c3,l3,rfl,(HD3.out.keep (fun b hb=>?_) (by omega)).more (fun b hb=>?_) (fun b hb=>?_),HB3.out,hbA⟩
 ·obtain ⟨k0,k1,k2,k3⟩:=hne b hb
  have e1:=heap_alloc_lt w3 (.cells #[.int .i64 dm,.slice A3 l3.length c3] 40) k0
  have e2:=hg5.block b (by simp <;> omega) (by simp <;> omega)
  have e3:=heap_alloc_lt W5 (.cells #[.int .i64 0,.bool was,.slice none 0 0] 52) (show b < W5.heap.size by omega)
  have e4:=HB6.out.block b (by simp <;> omega)
  have e5:=hg7.block b (by omega) (by simp <;> omega)
  have e6:=heap_set_ne W7 ⟨w.heap.size,4,none⟩ (.int .i64 (vr + 1)) (b:=b) k1
  have e7:=hg9.block b (by simp <;> omega) (by simp <;> omega)
  have e8:=hgA.block b (by omega) (by simp <;> omega)
  exact e8.trans (e7.trans (e6.trans (e5.trans (e4.trans (e3.trans (e2.trans e1))))))
 ·rcases hb with hb | ⟨hb,hb'⟩
  ·exact .inl hb
  ·simp at hb
   exact .inr ⟨by omega,by omega⟩
 ·rcases hb with hb | ⟨_,hb⟩
  ·have:=hD.lt b hb
   have:=hbA.size
   omega
  ·exact hb
end
section
open Go Go.RowKit
theorem rwrite_drop (dm : Nat) (ep mv vr cl sq x K : Int) (hv0 : 0 <= vr) (hv1 : vr < 1000000000) (q : List Be.E) (hok : Be.Okq q) (A A0 : Option Addr) (n c c0 : Nat) (l : List Pt) (was : Bool) (hq : q.length = 8) (rp : Int × Bool) (hre : Be.findM q cl sq = (rp,3)) (w : World) {P : Nat -> Prop} (hD : DocW w P A0 c0 l) (hr : Rise (l.map bareP)) (hl : l.length <= 512) (ha : hasT x (l.map bareP) = was) :
  Calls Tryz.prog 35 #[.agg (qV dm 2 ep mv vr (.slice A0 l.length c0) q).toArray,.int .i64 cl,.int .i64 sq,.agg #[.int .i64 2,.int .i64 x,.slice A n c,.int .i64 K]] w (RWPost P dm ep mv (vr + 1) (delT x (l.map bareP)) was (Be.putM q cl sq 0 was).1 w):=by
 have HW:=Lib.hid (qw_new w (qV dm 2 ep mv vr (.slice A0 l.length c0) q) 2 x K A n c)
 have HQ:=Lib.hid hq
 have HOK:=Lib.hid hok
 have hwr : IntKind.i64.wrap (vr + 1) = vr + 1:=by simp only [IntKind.wrap_i64];omega
 have HFi:=Lib.hid (fun w1=>Be.rfind_any (w:=w1) hq cl sq)
 obtain ⟨rp1,rp2⟩:=rp
 rw [hre] at HFi
 have HPU:=Lib.hid (fun (w1 : World) (hb : Below w.heap.size w w1)=>rdrop_any (dim:=dm) (h:=hD.below hb) hr hl x)
 clear hq hre hr hok
 go_enter Tryz.func35,Tryz.ntmps35
 go_wp2_with (first | (refine ld_qtab HW.out.s HQ.out rfl _ rfl rfl ?_) | fail)
 refine (HFi.out _).mono ?_
 rintro e w2 ⟨rfl,hb2⟩
 have HW2:=Lib.hid (HW.out.on hb2)
 clear hb2
 have o0:=HW2.out.op.cell (j:=0) (u:=.int .i64 2) rfl
 have o1:=HW2.out.op.cell (j:=1) (u:=.int .i64 x) rfl
 have o2:=HW2.out.op.cell (j:=2) (u:=.slice A n c) rfl
 have ol:=HW2.out.op.lt
 have sl2:=HW2.out.s.lt
 have s1 : w2.cell? ⟨w.heap.size,1,none⟩ = some (.int .i64 2):=HW2.out.s.cell rfl
 unfold Be.repV
 have HV:=Lib.hid (HW2.out.on ((Below.refl _ _).alloc (Nat.le_refl _) (.cells #[.int .i64 rp1,.bool rp2,.slice none 0 0] 52)))
 go_wp2_with (first | (refine ld_qtree (by exact HV.out.s) rfl _ rfl rfl ?_) | fail)
 refine (HPU.out _ HV.out.bel).mono ?_
 rintro e w3 ⟨A3,c3,l3,rfl,hD3,hB3,hb3⟩
 rw [ha]
 have HW3:=Lib.hid (HV.out.on hb3)
 have HD3:=Lib.hid hD3
 have HB3:=Lib.hid hB3
 have t1:=HW3.out.s.lt
 clear hD3 hB3 hb3
 have HV4:=Lib.hid (HW3.out.on ((Below.refl _ _).alloc (Nat.le_refl _) (.cells #[.int .i64 dm,.slice A3 l3.length c3] 40)))
 have HDP:=Lib.hid (fun w1=>Be.rput_any (w:=w1) HQ.out cl sq 0 was (.slice none 0 0))
 go_wp2_with (first | (refine st_qtree (by exact HV4.out.s) HQ.out rfl rfl _ _ rfl rfl rfl ?_;intro W5 hr5 hs5 hg5) | (refine ld_qtab (by exact (hr5.keep (heap_alloc_lt _ _ hr5.lt))) HQ.out rfl _ rfl rfl ?_) | fail)
 refine (HDP.out _).mono ?_
 rintro e w6 ⟨rfl,hb6⟩
 have hop:=row_grown HV4.out.op hg5 (by omega)
 have h8:=row_grown HV4.out.r8 hg5 (by omega)
 have h9:=row_grown HV4.out.r9 hg5 (by omega)
 have hbe5 : Below w.heap.size w W5:=below_grown_new HV4.out.bel hg5 (by omega)
 have hnew:=Row.new W5 52 [.int .i64 0,.bool was,.slice none 0 0]
 have hba : Below w.heap.size w (W5.alloc (.cells #[.int .i64 0,.bool was,.slice none 0 0] 52)):=hbe5.alloc hbe5.size _
 have R6:=Lib.hid ((hr5.keep (heap_alloc_lt _ _ hr5.lt)).keep (hb6.block _ (by have:=hr5.lt;simp <;> omega)))
 have E6:=Lib.hid ((h8.keep (heap_alloc_lt _ _ h8.lt)).keep (hb6.block _ (by have:=h8.lt;simp <;> omega)))
 have N6:=Lib.hid ((h9.keep (heap_alloc_lt _ _ h9.lt)).keep (hb6.block _ (by have:=h9.lt;simp <;> omega)))
 have Y6:=Lib.hid (hnew.keep (hb6.block _ hnew.lt))
 have B6:=Lib.hid (hba.trans (hb6.mono hba.size))
 have HQ2:=Lib.hid (show (Be.putM q cl sq 0 was).1.length = 8 from (Be.putM_ok HOK.out _ _ _ _).len)
 have hsz:=hs5
 have HB6:=Lib.hid hb6
 clear hop h8 h9 hnew hba hb6
 go_wp2_with (first | (refine st_qtab (by exact R6.out) HQ.out HQ2.out rfl _ _ rfl rfl rfl ?_;intro W7 hr7 hs7 hg7;have v7 : W7.cell? ⟨w.heap.size,4,none⟩ = some (.int .i64 vr):=hr7.cell rfl;have vz:=hr7.frozen 4;have vl:=hr7.lt) | fail)
 have l5:=hr5.lt
 have hs6 : W5.heap.size = w3.heap.size + 1:=by rw [hs5];simp
 obtain ⟨W8,hW8⟩ : ∃ W8,W7.setCell ⟨w.heap.size,4,none⟩ (.int .i64 (vr + 1)) = W8:=⟨_,rfl⟩
 have S8 : Row W8 w.heap.size 46 (qV dm 2 ep mv (vr + 1) (.slice A3 l3.length c3) (Be.putM q cl sq 0 was).1):=by rw [<- hW8];exact hr7.set 4 _
 have E8 : Row W8 (w.heap.size + 1 + 1) 46 (qNew 0):=by rw [<- hW8];exact (row_grown E6.out hg7 (by omega)).keep (heap_set_ne _ _ _ (by simp <;> omega))
 have N8 : Row W8 (w.heap.size + 1 + 1 + 1) 52 [.int .i64 0,.bool false,.slice none 0 0]:=by rw [<- hW8];exact (row_grown N6.out hg7 (by omega)).keep (heap_set_ne _ _ _ (by simp <;> omega))
 have Y8 : Row W8 (w3.heap.size + 1) 52 [.int .i64 0,.bool was,.slice none 0 0]:=by rw [<- hW8,<- hs6];exact (row_grown Y6.out hg7 (by omega)).keep (heap_set_ne _ _ _ (by simp <;> omega))
 have HS8:=Lib.hid S8
 have HE8:=Lib.hid E8
 have HN8:=Lib.hid N8
 have HY8:=Lib.hid Y8
 have HYL:=Lib.hid (show (qV dm 2 ep mv (vr + 1) (.slice A3 l3.length c3) (Be.putM q cl sq 0 was).1).length = 31 from qV_len HQ2.out)
 have HYO:=Lib.hid (show ∀ v ∈ qV dm 2 ep mv (vr + 1) (.slice A3 l3.length c3) (Be.putM q cl sq 0 was).1,v.oneCell' = true from qV_one rfl)
 have hw3 : w.heap.size + 1 + 1 + 1 < w3.heap.size:=HW3.out.r9.lt
 subst hW8
 clear S8 E8 N8 Y8
 refine wp_region_held_drew (S:=(fun w'=>Row w' w.heap.size 46 (qV dm 2 ep mv (vr + 1) (.slice A3 l3.length c3) (Be.putM q cl sq 0 was).1) /\ Row w' (w3.heap.size + 1) 52 [.int .i64 0,.bool was,.slice none 0 0])) (by kernel_rfl) ?_ (fun hHeld=>?_)
 ·exact ⟨HS8.out,HY8.out⟩
 refine wpAnyH_take (i:=0) (oi:=⟨_,_,_,_,_,_⟩) (v:=?_) rfl (by kernel_rfl) (by kernel_rfl) (by kernel_rfl) (fun _ _ _ h=>h) (Or.inl ⟨by rfl,?_⟩) (by assumption) ?_
 rotate_left
 ·intro w' hSw;(refine yields_q10 hSw.1 HYL.out (.tmp 4) ?_ ?_) <;> rfl
 try simp only [Act.put,List.setIfInBounds_toArray,List.set_cons_zero,List.set_cons_succ]
 refine wpAnyH_take (i:=1) (oi:=⟨_,_,_,_,_,_⟩) (v:=?_) rfl (by kernel_rfl) (by kernel_rfl) (by kernel_rfl) (fun _ _ _ h=>h) (Or.inl ⟨by rfl,?_⟩) (by assumption) ?_
 rotate_left
 ·intro w' hSw;(refine yields_rep hSw.2 (.tmp 19) ?_ ?_) <;> rfl
 try simp only [Act.put,List.setIfInBounds_toArray,List.set_cons_zero,List.set_cons_succ]
 refine wpAnyH_ready (rs:=[2]) (by kernel_rfl) (by simp) ?_
 refine AllReadyH.cons (o:=⟨_,_,_,_,_,_⟩) rfl (fun K hK=>?_) AllReadyH.nil
 refine step_st_row (xs:=qNew 0) (ys:=qV dm 2 ep mv (vr + 1) (.slice A3 l3.length c3) (Be.putM q cl sq 0 was).1) (by exact HE8.out) HYL.out (by rw [HYL.out];exact q10_size) HYO.out rfl _ _ rfl rfl rfl ?_;intro W9 hr9 hs9 hg9;have N9:=Lib.hid (row_grown (by exact HN8.out) hg9 (by omega))
 refine hK.out _ _ ?_ (fun hHeld=>?_)
 ·exact ⟨row_grown (by exact HS8.out) hg9 (by omega),row_grown (by exact HY8.out) hg9 (by omega)⟩
 clear hK K
 try simp only [Act.put,List.setIfInBounds_toArray,List.set_cons_zero,List.set_cons_succ]
 refine wpAnyH_ready (rs:=[3]) (by kernel_rfl) (by simp) ?_
 refine AllReadyH.cons (o:=⟨_,_,_,_,_,_⟩) rfl (fun K hK=>?_) AllReadyH.nil
 refine step_st_row (xs:=[.int .i64 0,.bool false,.slice none 0 0]) (ys:=[.int .i64 0,.bool was,.slice none 0 0]) N9.out rfl (by kernel_rfl) (by intro v hv;simp only [List.mem_cons,List.not_mem_nil,or_false] at hv;rcases hv with rfl | rfl | rfl <;> rfl) rfl _ _ rfl rfl rfl ?_;intro WA hrA hsA hgA
 refine hK.out _ _ ?_ (fun hHeld=>?_)
 ·exact ⟨row_grown hHeld.1 hgA (by omega),row_grown hHeld.2 hgA (by omega)⟩
 clear hK K
 try simp only [Act.put,List.setIfInBounds_toArray,List.set_cons_zero,List.set_cons_succ]
 refine wpAnyH_ready (rs:=[4]) (by kernel_rfl) (by simp) ?_
 refine AllReadyH.cons (o:=⟨_,_,_,_,_,_⟩) rfl (fun K hK=>?_) AllReadyH.nil
 go_simp
 refine hK.out _ _ ?_ (fun hHeld=>?_)
 ·exact hHeld
 clear hK K
 try simp only [Act.put,List.setIfInBounds_toArray,List.set_cons_zero,List.set_cons_succ]
 refine wpAnyH_done (by kernel_rfl) ?_ _
 go_wp2_with fail
 refine bodyPost_ret (res_q10w Tryz.results35 _ (row_grown hr9 hgA (by omega)) HYL.out rfl hrA rfl rfl) rfl ?_
 have hbA : Below w.heap.size w WA:=below_grown_new (below_grown_new (((below_grown_new B6.out hg7 (Nat.le_refl _)).setCell (by simp) _).drew) hg9 (by omega)) hgA (by omega)
 have hwl:=HW2.out.r9.lt
 have hb6s : W5.heap.size + 1 <= w6.heap.size:=by have:=HB6.out.size;simpa using this
 have hsA2 : WA.heap.size = w6.heap.size:=by rw [hsA,hs9];simpa using hs7
 have hlt3:=HD3.out.lt
 have hne : ∀ b,NewP P (w2.alloc (.cells #[.int .i64 rp1,.bool rp2,.slice none 0 0] 52)) w3 b -> b < w3.heap.size /\ b ≠ w.heap.size /\ b ≠ w.heap.size + 1 + 1 /\ b ≠ w.heap.size + 1 + 1 + 1:=fun b hb=>by
  refine ⟨hlt3 b hb,?_⟩
  rcases hb with hb | ⟨hb,_⟩
  ·have:=hD.lt b hb
   omega
  ·simp at hb
   omega
 refine ⟨A3,c3,l3,rfl,(HD3.out.keep (fun b hb=>?_) (by omega)).more (fun b hb=>?_) (fun b hb=>?_),HB3.out,hbA⟩
 ·obtain ⟨k0,k1,k2,k3⟩:=hne b hb
  have e1:=heap_alloc_lt w3 (.cells #[.int .i64 dm,.slice A3 l3.length c3] 40) k0
  have e2:=hg5.block b (by simp <;> omega) (by simp <;> omega)
  have e3:=heap_alloc_lt W5 (.cells #[.int .i64 0,.bool was,.slice none 0 0] 52) (show b < W5.heap.size by omega)
  have e4:=HB6.out.block b (by simp <;> omega)
  have e5:=hg7.block b (by omega) (by simp <;> omega)
  have e6:=heap_set_ne W7 ⟨w.heap.size,4,none⟩ (.int .i64 (vr + 1)) (b:=b) k1
  have e7:=hg9.block b (by simp <;> omega) (by simp <;> omega)
  have e8:=hgA.block b (by omega) (by simp <;> omega)
  exact e8.trans (e7.trans (e6.trans (e5.trans (e4.trans (e3.trans (e2.trans e1))))))
 ·rcases hb with hb | ⟨hb,hb'⟩
  ·exact .inl hb
  ·simp at hb
   exact .inr ⟨by omega,by omega⟩
 ·rcases hb with hb | ⟨_,hb⟩
  ·have:=hD.lt b hb
   have:=hbA.size
   omega
  ·exact hb
end
section
open Go Go.RowKit
theorem rwrite_bad (dm : Nat) (ep mv vr cl sq x K : Int) (hv0 : 0 <= vr) (hv1 : vr < 1000000000) (q : List Be.E) (hok : Be.Okq q) (A A0 : Option Addr) (n c c0 : Nat) (l : List Pt) (vec : List Int) (hq : q.length = 8) (rp : Int × Bool) (hre : Be.findM q cl sq = (rp,3)) (w : World) {P : Nat -> Prop} (hD : DocW w P A0 c0 l) (hr : Rise (l.map bareP)) (hl : l.length <= 512) (hp : PtIn w P (x,(A,n,c),vec)) (ha : putA dm x vec (l.map bareP) = (false,50)) :
  Calls Tryz.prog 35 #[.agg (qV dm 2 ep mv vr (.slice A0 l.length c0) q).toArray,.int .i64 cl,.int .i64 sq,.agg #[.int .i64 1,.int .i64 x,.slice A n c,.int .i64 K]] w fun e w'=>e = .returned (.tuple #[.agg (qV dm 2 ep mv vr (.slice A0 l.length c0) q).toArray,.agg #[.int .i64 0,.bool false,.slice none 0 0],.int .i64 50]) /\ Below w.heap.size w w':=by
 have HW:=Lib.hid (qw_new w (qV dm 2 ep mv vr (.slice A0 l.length c0) q) 1 x K A n c)
 have HQ:=Lib.hid hq
 have HOK:=Lib.hid hok
 have hwr : IntKind.i64.wrap (vr + 1) = vr + 1:=by simp only [IntKind.wrap_i64];omega
 have HFi:=Lib.hid (fun w1=>Be.rfind_any (w:=w1) hq cl sq)
 obtain ⟨rp1,rp2⟩:=rp
 rw [hre] at HFi
 have HPU:=Lib.hid (fun (w1 : World) (hb : Below w.heap.size w w1)=>rput_any (dim:=dm) (h:=hD.below hb) hr hl (hp.keep (fun b hP=>hb.block b (hD.lt b hP))))
 clear hq hre hr hp hok
 go_enter Tryz.func35,Tryz.ntmps35
 go_wp2_with (first | (refine ld_qtab HW.out.s HQ.out rfl _ rfl rfl ?_) | fail)
 refine (HFi.out _).mono ?_
 rintro e w2 ⟨rfl,hb2⟩
 have HW2:=Lib.hid (HW.out.on hb2)
 clear hb2
 have o0:=HW2.out.op.cell (j:=0) (u:=.int .i64 1) rfl
 have o1:=HW2.out.op.cell (j:=1) (u:=.int .i64 x) rfl
 have o2:=HW2.out.op.cell (j:=2) (u:=.slice A n c) rfl
 have ol:=HW2.out.op.lt
 have sl2:=HW2.out.s.lt
 have s1 : w2.cell? ⟨w.heap.size,1,none⟩ = some (.int .i64 2):=HW2.out.s.cell rfl
 unfold Be.repV
 have HV:=Lib.hid (HW2.out.on ((Below.refl _ _).alloc (Nat.le_refl _) (.cells #[.int .i64 rp1,.bool rp2,.slice none 0 0] 52)))
 go_wp2_with (first | (refine ld_qtree (by exact HV.out.s) rfl _ rfl rfl ?_) | fail)
 refine (HPU.out _ HV.out.bel).mono ?_
 rintro e w3 ⟨A3,c3,l3,rfl,hD3,hB3,hb3⟩
 rw [ha]
 have HW3:=Lib.hid (HV.out.on hb3)
 have HD3:=Lib.hid hD3
 have HB3:=Lib.hid hB3
 have t1:=HW3.out.s.lt
 clear hD3 hB3 hb3
 have HV4:=Lib.hid (HW3.out.on ((Below.refl _ _).alloc (Nat.le_refl _) (.cells #[.int .i64 dm,.slice A3 l3.length c3] 40)))
 have HYL:=Lib.hid (show (qV dm 2 ep mv vr (.slice A0 l.length c0) q).length = 31 from qV_len HQ.out)
 have HYO:=Lib.hid (show ∀ v ∈ qV dm 2 ep mv vr (.slice A0 l.length c0) q,v.oneCell' = true from qV_one rfl)
 go_wp2_with (first | (refine ld_q10 (by exact HV4.out.s) HYL.out rfl _ rfl rfl ?_) | (refine st_row (xs:=qNew 0) (ys:=qV dm 2 ep mv vr (.slice A0 l.length c0) q) (by exact HV4.out.r8) HYL.out (by rw [HYL.out];exact q10_size) HYO.out rfl _ _ rfl rfl rfl ?_;intro W' hr' hs' hg';have Y9:=row_grown (by exact HV4.out.r9) hg' (by omega);have y0:=Y9.cell (j:=0) (u:=.int .i64 0) rfl;have y1:=Y9.cell (j:=1) (u:=.bool false) rfl;have y2:=Y9.cell (j:=2) (u:=.slice none 0 0) rfl;have yl:=Y9.lt;have yz:=fun j=>Y9.frozen j) | fail)
 have hbe : Below w.heap.size w W':=below_grown_new HV4.out.bel hg' (by omega)
 refine bodyPost_ret (res_q10w Tryz.results35 _ (((hr'.keep (heap_set_ne _ _ _ (by simp))).keep (heap_set_ne _ _ _ (by simp))).keep (heap_set_ne _ _ _ (by simp))) HYL.out rfl (((Y9.set 0 (.int .i64 0)).set 1 (.bool false)).set 2 (.slice none 0 0)) rfl rfl) rfl ⟨rfl,((hbe.setCell (by simp <;> omega) _).setCell (by simp <;> omega) _).setCell (by simp <;> omega) _⟩
end
section
open Go Go.RowKit
section
variable {w w' : World} {B : Nat} {Fd Gd Fk Ft : Nat -> Prop} {s d lp g t p N tn st : Nat} {su : List ByteArray} {R : List RK} {k : KS} {Z : Nat -> Prop}
theorem change_drop (h : ShR w B Fd Gd Fk Ft s d lp g t p N tn st su R k) (cl sq x K : Int) (A : Option Addr) (n c : Nat) (h1 : Be.S64 cl) (h2 : Be.S64 sq) (h3 : Be.S64 x) (hv1 : k.vr < 1000000000) (hfit : (encs (R.map RK.bytes)).length + ((RK.drop cl sq x).bytes.length + 14) <= 128 * hB N tn) :
  Calls Tryz.prog 48 #[.pointer (some ⟨s,0,none⟩),.int .i64 cl,.int .i64 sq,.agg #[.int .i64 2,.int .i64 x,.slice A n c,.int .i64 K]] w (KeepPost B s d N tn (Za Fd Gd Fk s) (R ++ [RK.drop cl sq x]) (dropK k cl sq x) w):=by
 have hv:=chv_new w 2 x K A n c cl sq
 obtain ⟨W,hW⟩ : ∃ W,((w.alloc (.cells #[.int .i64 2,.int .i64 x,.slice A n c,.int .i64 K] 29)).alloc (.cells #[.int .i64 x,.slice none 0 0] 104)).alloc (.cells #[.int .i64 5,.int .i64 0,.int .i64 0,.int .i64 0,.int .i64 0,.int .i64 0,.int .i64 cl,.int .i64 sq,.string ⟨#[]⟩,.slice (some ⟨w.heap.size + 1,0,none⟩) 1 1] 107) = W:=⟨_,rfl⟩
 have HWl:=Lib.hid hW
 rw [hW] at hv
 have o0:=hv.op.cell (j:=0) (u:=.int .i64 2) rfl
 have o1:=hv.op.cell (j:=1) (u:=.int .i64 x) rfl
 have o2:=hv.op.cell (j:=2) (u:=.slice A n c) rfl
 have o3:=hv.op.cell (j:=3) (u:=.int .i64 K) rfl
 have ol:=hv.op.lt
 rw [<- hW] at o0 o1 o2 o3 ol
 have HV:=Lib.hid hv
 have H:=Lib.hid h
 have HF:=Lib.hid hfit
 clear hv hW h hfit
 go_enter Tryz.func48,Tryz.ntmps48
 go_wp2_with fail
 rw [HWl.out]
 have V3:=HV.out
 have t0:=V3.rc.cell (j:=0) (u:=.int .i64 5) rfl
 have t1:=V3.rc.cell (j:=1) (u:=.int .i64 0) rfl
 have t2:=V3.rc.cell (j:=2) (u:=.int .i64 0) rfl
 have t3:=V3.rc.cell (j:=3) (u:=.int .i64 0) rfl
 have t4:=V3.rc.cell (j:=4) (u:=.int .i64 0) rfl
 have t5:=V3.rc.cell (j:=5) (u:=.int .i64 0) rfl
 have t6:=V3.rc.cell (j:=6) (u:=.int .i64 cl) rfl
 have t7:=V3.rc.cell (j:=7) (u:=.int .i64 sq) rfl
 have t8:=V3.rc.cell (j:=8) (u:=.string ⟨#[]⟩) rfl
 have t9:=V3.rc.cell (j:=9) (u:=.slice (some ⟨w.heap.size + 1,0,none⟩) 1 1) rfl
 have tl:=V3.rc.lt
 have hpts : Pts W W.heap.size (some ⟨w.heap.size + 1,0,none⟩) 1 [(x,(none,0,0),[])]:=by
  refine ⟨⟨rfl,fun _=>⟨_,rfl,V3.pt.lt,fun j u hj=>?_⟩⟩,fun q hq=>?_⟩
  ·rw [add_flat,Nat.zero_add]
   exact V3.pt.cell hj
  ·rw [List.mem_singleton] at hq
   subst hq
   exact ⟨⟨Reads.none_,Nat.zero_le _⟩,s64_wf h3⟩
 have haw : Away (Za Fd Gd Fk s) [(x,(none,0,0),[])] (some ⟨w.heap.size + 1,0,none⟩):=by
  refine ⟨fun ad e hZ=>?_,fun q hq ad e=>?_⟩
  ·cases e
   rcases hZ with hZ | hZ
   ·have:=H.out.b.lt _ hZ
    simp only at this
    omega
   ·have:=H.out.kept.lt _ hZ
    simp only at this
    omega
  ·rw [List.mem_singleton] at hq
   subst hq
   cases e
 have hgd:=H.out.good
 have hkp:=keep_ok (H.out.below V3.bel) (RK.drop cl sq x) (fun m h=>by cases h) ⟨h1,h2,h3,hgd.v0,hgd.v1⟩ (hgd.drop hv1) HF.out (some ⟨w.heap.size + 1,0,none⟩) 1 1 [(x,(none,0,0),[])] hpts rfl haw
 simp only [RK.rc,rec0] at hkp
 have HKP:=Lib.hid hkp
 have HB3:=Lib.hid V3.bel
 clear hkp V3 hpts haw hgd HF
 go_wp2_with fail
 refine HKP.out.mono ?_
 rintro e w4 ⟨rfl,Z4,hs4,hT4⟩
 obtain ⟨Fd4,Gd4,Fk4,Ft4,lp4,g4,tt4,p4,st4,su4,h4,rfl⟩:=hs4
 have s2 : w4.cell? ⟨s,2,none⟩ = some (.pointer (some ⟨g4,0,none⟩)):=h4.b.row.cell rfl
 have sl4:=h4.b.row.lt
 have k4:=h4.kept.c4
 have k5:=h4.kept.c5
 have kl4:=h4.kept.gl
 have HBD:=Lib.hid (t_build h4.kept.tree)
 have H4:=Lib.hid h4
 have HT4:=Lib.hid ((Turn.below _ HB3.out).trans hT4)
 have hvv : 0 <= (doK k (RK.drop cl sq x)).vr:=h4.good.v0
 generalize hvr : (doK k (RK.drop cl sq x)).vr = vr at k4 hvv
 have HVR:=Lib.hid hvr
 clear h4 hT4 hvr
 by_cases hmod : vr % 64 = 0
 ·go_wp2_with fail
  refine HBD.out.mono ?_
  rintro e w5 ⟨rfl,Ft5,ht5,hT5⟩
  obtain ⟨Z5,hs5,hZ5⟩:=after_build H4.out ht5 hT5
  go_wp2_with fail
  go_ret
  exact ⟨rfl,Z5,hs5,HT4.out.trans hZ5⟩
 ·go_wp2_with fail
  go_ret
  exact ⟨rfl,_,⟨_,_,_,_,_,_,_,_,_,_,H4.out,rfl⟩,HT4.out⟩
theorem write_drop (h : ShR w B Fd Gd Fk Ft s d lp g t p N tn st su R k) (hst : k.st = 2) (cl sq x K : Int) (A : Option Addr) (n c : Nat) (hm : Be.mayB cl sq = true) (hf : (Be.findM k.q cl sq).2 = 3) (h3 : Be.S64 x) (hv1 : k.vr < 1000000000) (hfit : (encs (R.map RK.bytes)).length + ((RK.drop cl sq x).bytes.length + 14) <= 128 * hB N tn) :
  Calls Tryz.prog 16 #[.pointer (some ⟨s,0,none⟩),.int .i64 cl,.int .i64 sq,.agg #[.int .i64 2,.int .i64 x,.slice A n c,.int .i64 K]] w (SwrPost B s d N tn (Za Fd Gd Fk s) (R ++ [RK.drop cl sq x]) (dropK k cl sq x) (0,hasT x k.T) w):=by
 obtain ⟨W,hW⟩ : ∃ W,(w.alloc (.cells #[.int .i64 2,.int .i64 x,.slice A n c,.int .i64 K] 29)).alloc (.cells #[.int .i64 0,.bool false,.slice none 0 0] 52) = W:=⟨_,rfl⟩
 have hbW : Below w.heap.size w W:=by rw [<- hW];exact ((Below.refl _ _).alloc (Nat.le_refl _) _).alloc (by simp) _
 have hX : Row W w.heap.size 29 [.int .i64 2,.int .i64 x,.slice A n c,.int .i64 K]:=by
  rw [<- hW]
  exact (Row.new w 29 [.int .i64 2,.int .i64 x,.slice A n c,.int .i64 K]).keep (heap_alloc_lt _ _ (by simp))
 have hY : Row W (w.heap.size + 1) 52 [.int .i64 0,.bool false,.slice none 0 0]:=by
  rw [<- hW]
  have:=Row.new (w.alloc (.cells #[.int .i64 2,.int .i64 x,.slice A n c,.int .i64 K] 29)) 52 [.int .i64 0,.bool false,.slice none 0 0]
  rw [World.size_alloc] at this
  exact this
 have hW1:=h.below hbW
 have x0 : W.cell? ⟨w.heap.size,0,none⟩ = some (.int .i64 2):=hX.cell rfl
 have xl:=hX.lt
 have s2 : W.cell? ⟨s,2,none⟩ = some (.pointer (some ⟨g,0,none⟩)):=hW1.b.row.cell rfl
 have hsl:=hW1.b.row.lt
 have c6:=hW1.kept.c6
 have hgl:=hW1.kept.gl
 have HG:=Lib.hid (sgiven_any hW1)
 have hfi:=Be.find_any hW1.kept.tab cl sq
 rw [hf] at hfi
 obtain ⟨rp,hrp⟩ : ∃ rp,(Be.findM k.q cl sq).1 = rp:=⟨_,rfl⟩
 rw [hrp] at hfi
 have hc64 : Be.S64 cl /\ Be.S64 sq:=by
  simp only [Be.mayB,Be.cliB,Be.seqB,Bool.and_eq_true,decide_eq_true_eq] at hm
  exact ⟨⟨by omega,by omega⟩,⟨by omega,by omega⟩⟩
 have HFP:=Lib.hid (find_put h.good.tab hm hf (hasT x k.T))
 have HCH:=Lib.hid (show ∀ w2,Below w.heap.size w w2 -> Calls Tryz.prog 48 #[.pointer (some ⟨s,0,none⟩),.int .i64 cl,.int .i64 sq,.agg #[.int .i64 2,.int .i64 x,.slice A n c,.int .i64 K]] w2 (KeepPost B s d N tn (Za Fd Gd Fk s) (R ++ [RK.drop cl sq x]) (dropK k cl sq x) w2) from fun w2 hb=>change_drop (h.below hb) cl sq x K A n c hc64.1 hc64.2 h3 hv1 hfit)
 have HFi:=Lib.hid hfi
 have HB:=Lib.hid hbW
 have HY:=Lib.hid hY
 have HWl:=Lib.hid hW
 have H1:=Lib.hid hW1
 have HYz:=Lib.hid (show ¬ Za Fd Gd Fk s (w.heap.size + 1) from fun hZ=>by
  rcases hZ with hZ | hZ
  ·have:=h.b.lt _ hZ
   omega
  ·have:=h.kept.lt _ hZ
   omega)
 have o1:=hX.cell (j:=1) (u:=.int .i64 x) rfl
 have o2:=hX.cell (j:=2) (u:=.slice A n c) rfl
 have o3:=hX.cell (j:=3) (u:=.int .i64 K) rfl
 have HX:=Lib.hid hX
 have HBl:=Lib.hid h.b.log.tab.le
 clear h hbW hX hY hW hW1 hf hfi hm hfit hc64 hrp
 go_enter Tryz.func16,Tryz.ntmps16
 go_wp2_with fail
 rw [HWl.out]
 go_wp2_with (with_reducible refine HG.out.mono ?_;rintro e w1 ⟨rfl,rfl⟩)
 refine HFi.out.mono ?_
 rintro e w2 ⟨rfl,hb2⟩
 unfold Be.repV
 obtain ⟨rp1,rp2⟩:=rp
 have hb3 : Below w2.heap.size w2 (w2.alloc (.cells #[.int .i64 rp1,.bool rp2,.slice none 0 0] 52)):=(Below.refl _ _).alloc (Nat.le_refl _) _
 have H3:=(H1.out.below hb2).below hb3
 have HS:=Lib.hid (sis_any H3 2)
 rw [show (k.st == 2) = true by simp [hst]] at HS
 have Y3:=(HY.out.keep (hb2.block _ HY.out.lt)).keep (hb3.block _ (Nat.lt_of_lt_of_le HY.out.lt hb2.size))
 have X3:=(HX.out.keep (hb2.block _ HX.out.lt)).keep (hb3.block _ (Nat.lt_of_lt_of_le HX.out.lt hb2.size))
 have p0:=X3.cell (j:=0) (u:=.int .i64 2) rfl
 have p1:=X3.cell (j:=1) (u:=.int .i64 x) rfl
 have p2:=X3.cell (j:=2) (u:=.slice A n c) rfl
 have p3:=X3.cell (j:=3) (u:=.int .i64 K) rfl
 have pl:=X3.lt
 have hbw3 : Below w.heap.size w (w2.alloc (.cells #[.int .i64 rp1,.bool rp2,.slice none 0 0] 52)):=(HB.out.trans (hb2.mono HB.out.size)).trans (hb3.mono (Nat.le_trans HB.out.size hb2.size))
 have HC3:=Lib.hid (HCH.out _ hbw3)
 have HBf:=Lib.hid hbw3
 have HY3:=Lib.hid Y3
 clear H3 Y3 X3 hb3 hb2 hbw3 o1 o2 o3
 go_wp2_with fail
 refine HS.out.mono ?_
 rintro e w3 ⟨rfl,rfl⟩
 go_wp2_with fail
 refine HC3.out.mono ?_
 rintro e w4 ⟨rfl,Z4,hs4,hT4⟩
 have Y4:=HY3.out.keep (hT4.block _ HY3.out.lt HYz.out)
 obtain ⟨Fd4,Gd4,Fk4,Ft4,lp4,g4,t4,p4,st4,su4,h4,rfl⟩:=hs4
 have s2 : w4.cell? ⟨s,2,none⟩ = some (.pointer (some ⟨g4,0,none⟩)):=h4.b.row.cell rfl
 have sl4:=h4.b.row.lt
 have k6:=h4.kept.c6
 have kl4:=h4.kept.gl
 have hfin:=Be.find_any h4.kept.tab cl sq
 have hq : (dropK k cl sq x).q = (Be.putM k.q cl sq 0 (hasT x k.T)).1:=rfl
 rw [hq,HFP.out] at hfin
 have HFN:=Lib.hid hfin
 have H4:=Lib.hid h4
 have HT4:=Lib.hid ((Turn.below _ HBf.out).trans hT4)
 have HTr:=Lib.hid hT4
 have HY4:=Lib.hid Y4
 clear h4 hT4 Y4 hfin hq
 go_wp2_with fail
 refine HFN.out.mono ?_
 rintro e w5 ⟨rfl,hb5⟩
 unfold Be.repV
 have Y5:=HY4.out.keep (hb5.block _ HY4.out.lt)
 have y0:=Y5.cell (j:=0) (u:=.int .i64 0) rfl
 have y1:=Y5.cell (j:=1) (u:=.bool false) rfl
 have y2:=Y5.cell (j:=2) (u:=.slice none 0 0) rfl
 have yz:=fun j=>Y5.frozen j
 have yl:=Y5.lt
 have HB5:=Lib.hid hb5
 clear hb5 Y5
 go_wp2_with fail
 refine bodyPost_ret (v:=swrV (0,hasT x k.T) 0) (by simp [results,Tryz.results16,go_sem,swrV,y0,y1,y2,yl]) rfl ⟨rfl,?_⟩
 have hTY : ∀ (V : World) (j : Nat) (u : Value),Turn (fun b=>b = w.heap.size + 1) V (fun b=>b = w.heap.size + 1) (V.setCell ⟨w.heap.size + 1,j,none⟩ u):=fun V j u=>turn_one _ V j u
 have hTT:=(hTY w5 0 (.int .i64 0)).trans ((hTY _ 1 (.bool (hasT x k.T))).trans (hTY _ 2 (.slice none 0 0)))
 have hnz : ∀ b,Za Fd4 Gd4 Fk4 s b -> ¬ (b = w.heap.size + 1):=fun b hb e=>by
  subst e
  rcases HTr.out.foot _ hb with h | h
  ·exact HYz.out h
  ·have:=HY3.out.lt
   omega
 have hsw : ShW w5 B (Za Fd4 Gd4 Fk4 s) s d N tn (R ++ [RK.drop cl sq x]) (dropK k cl sq x):=(show ShW w4 B (Za Fd4 Gd4 Fk4 s) s d N tn (R ++ [RK.drop cl sq x]) (dropK k cl sq x) from ⟨_,_,_,_,_,_,_,_,_,_,H4.out,rfl⟩).below HB5.out
 refine ⟨_,hsw.turn hTT hnz (fun b e=>?_),(HT4.out.trans (Turn.below _ HB5.out)).aside hTT (by omega)⟩
 have:=H1.out.b.log.tab.le
 have hz:=HY.out.lt
 subst e
 have hBs : B <= w.heap.size:=HBl.out
 omega
end
end
section
open Go Go.RowKit
section
variable {w w' : World} {B : Nat} {Fd Gd Fk Ft : Nat -> Prop} {s d lp g t p N tn st : Nat} {su : List ByteArray} {R : List RK} {k : KS} {Z : Nat -> Prop}
theorem write_kind (h : ShR w B Fd Gd Fk Ft s d lp g t p N tn st su R k) (cl sq x K : Int) (kd : Int) (hkd : kd ≠ 1 /\ kd ≠ 2) (A : Option Addr) (n c : Nat) :
  Calls Tryz.prog 16 #[.pointer (some ⟨s,0,none⟩),.int .i64 cl,.int .i64 sq,.agg #[.int .i64 kd,.int .i64 x,.slice A n c,.int .i64 K]] w fun e w'=>e = .returned (swrV (0,false) 1) /\ Below w.heap.size w w':=by
 obtain ⟨W,hW⟩ : ∃ W,(w.alloc (.cells #[.int .i64 kd,.int .i64 x,.slice A n c,.int .i64 K] 29)).alloc (.cells #[.int .i64 0,.bool false,.slice none 0 0] 52) = W:=⟨_,rfl⟩
 have hbW : Below w.heap.size w W:=by rw [<- hW];exact ((Below.refl _ _).alloc (Nat.le_refl _) _).alloc (by simp) _
 have hX : Row W w.heap.size 29 [.int .i64 kd,.int .i64 x,.slice A n c,.int .i64 K]:=by
  rw [<- hW]
  exact (Row.new w 29 [.int .i64 kd,.int .i64 x,.slice A n c,.int .i64 K]).keep (heap_alloc_lt _ _ (by simp))
 have hY : Row W (w.heap.size + 1) 52 [.int .i64 0,.bool false,.slice none 0 0]:=by
  rw [<- hW]
  have:=Row.new (w.alloc (.cells #[.int .i64 kd,.int .i64 x,.slice A n c,.int .i64 K] 29)) 52 [.int .i64 0,.bool false,.slice none 0 0]
  rw [World.size_alloc] at this
  exact this
 have hW1:=h.below hbW
 have x0 : W.cell? ⟨w.heap.size,0,none⟩ = some (.int .i64 kd):=hX.cell rfl
 have xl:=hX.lt
 have s2 : W.cell? ⟨s,2,none⟩ = some (.pointer (some ⟨g,0,none⟩)):=hW1.b.row.cell rfl
 have hsl:=hW1.b.row.lt
 have c6:=hW1.kept.c6
 have hgl:=hW1.kept.gl
 have HG:=Lib.hid (sgiven_any hW1)
 have HB:=Lib.hid hbW
 have HY:=Lib.hid hY
 have HWl:=Lib.hid hW
 have H1:=Lib.hid hW1
 clear h hbW hX hY hW hW1
 have k1 : (kd != 1) = true:=by simp [hkd.1]
 have k2 : (kd != 2) = true:=by simp [hkd.2]
 have k3 : (kd != 1 && kd != 2) = true:=by rw [k1,k2];rfl
 clear hkd
 have Y3:=HY.out
 have y0:=Y3.cell (j:=0) (u:=.int .i64 0) rfl
 have y1:=Y3.cell (j:=1) (u:=.bool false) rfl
 have y2:=Y3.cell (j:=2) (u:=.slice none 0 0) rfl
 have yz:=fun j=>Y3.frozen j
 have yl:=Y3.lt
 have HBf:=Lib.hid HB.out
 go_enter Tryz.func16,Tryz.ntmps16
 go_wp2_with fail
 rw [HWl.out]
 go_wp2_with (with_reducible refine HG.out.mono ?_;rintro e w1 ⟨rfl,rfl⟩)
 refine bodyPost_ret (v:=swrV (0,false) 1) (by simp [results,Tryz.results16,go_sem,swrV,y0,y1,y2,yl]) rfl ⟨rfl,?_⟩
 exact ((HBf.out.setCell (by simp) _).setCell (by simp) _).setCell (by simp) _
theorem write_bad (h : ShR w B Fd Gd Fk Ft s d lp g t p N tn st su R k) (hst : k.st = 2) (cl sq x K : Int) (A : Option Addr) (n c : Nat) (vec : List Int) (hm : Be.mayB cl sq = true) (hf : (Be.findM k.q cl sq).2 = 3) (hR : Reads w w.heap.size 1 A n (ints vec)) (hn : n <= maxLen) (hfew : k.T.length < 512) (hk : ck vec (k.dm : Int) = 50) :
  Calls Tryz.prog 16 #[.pointer (some ⟨s,0,none⟩),.int .i64 cl,.int .i64 sq,.agg #[.int .i64 1,.int .i64 x,.slice A n c,.int .i64 K]] w fun e w'=>e = .returned (swrV (0,false) 50) /\ Below w.heap.size w w':=by
 obtain ⟨W,hW⟩ : ∃ W,(w.alloc (.cells #[.int .i64 1,.int .i64 x,.slice A n c,.int .i64 K] 29)).alloc (.cells #[.int .i64 0,.bool false,.slice none 0 0] 52) = W:=⟨_,rfl⟩
 have hbW : Below w.heap.size w W:=by rw [<- hW];exact ((Below.refl _ _).alloc (Nat.le_refl _) _).alloc (by simp) _
 have hX : Row W w.heap.size 29 [.int .i64 1,.int .i64 x,.slice A n c,.int .i64 K]:=by
  rw [<- hW]
  exact (Row.new w 29 [.int .i64 1,.int .i64 x,.slice A n c,.int .i64 K]).keep (heap_alloc_lt _ _ (by simp))
 have hY : Row W (w.heap.size + 1) 52 [.int .i64 0,.bool false,.slice none 0 0]:=by
  rw [<- hW]
  have:=Row.new (w.alloc (.cells #[.int .i64 1,.int .i64 x,.slice A n c,.int .i64 K] 29)) 52 [.int .i64 0,.bool false,.slice none 0 0]
  rw [World.size_alloc] at this
  exact this
 have hW1:=h.below hbW
 have x0 : W.cell? ⟨w.heap.size,0,none⟩ = some (.int .i64 1):=hX.cell rfl
 have xl:=hX.lt
 have s2 : W.cell? ⟨s,2,none⟩ = some (.pointer (some ⟨g,0,none⟩)):=hW1.b.row.cell rfl
 have hsl:=hW1.b.row.lt
 have c6:=hW1.kept.c6
 have hgl:=hW1.kept.gl
 have HG:=Lib.hid (sgiven_any hW1)
 have hfi:=Be.find_any hW1.kept.tab cl sq
 rw [hf] at hfi
 obtain ⟨rp,hrp⟩ : ∃ rp,(Be.findM k.q cl sq).1 = rp:=⟨_,rfl⟩
 rw [hrp] at hfi
 have HRr:=Lib.hid hR
 have HCH:=Lib.hid (show ∀ w2,Below w.heap.size w w2 -> Calls Tryz.prog 48 #[.pointer (some ⟨s,0,none⟩),.int .i64 cl,.int .i64 sq,.agg #[.int .i64 1,.int .i64 x,.slice A n c,.int .i64 K]] w2 (fun e w3=>e = .returned (.int .i64 50) /\ Below w2.heap.size w2 w3) from fun w2 hb=>change_bad (h.below hb) cl sq x K A n c vec ((hR.below hb).more hb.size) hn hfew hk)
 have HFi:=Lib.hid hfi
 have HB:=Lib.hid hbW
 have HY:=Lib.hid hY
 have HWl:=Lib.hid hW
 have H1:=Lib.hid hW1
 have HYz:=Lib.hid (show ¬ Za Fd Gd Fk s (w.heap.size + 1) from fun hZ=>by
  rcases hZ with hZ | hZ
  ·have:=h.b.lt _ hZ
   omega
  ·have:=h.kept.lt _ hZ
   omega)
 have o1:=hX.cell (j:=1) (u:=.int .i64 x) rfl
 have o2:=hX.cell (j:=2) (u:=.slice A n c) rfl
 have o3:=hX.cell (j:=3) (u:=.int .i64 K) rfl
 have HX:=Lib.hid hX
 have HBl:=Lib.hid h.b.log.tab.le
 clear h hbW hX hY hW hW1 hf hfi hm hR hk hrp
 go_enter Tryz.func16,Tryz.ntmps16
 go_wp2_with fail
 rw [HWl.out]
 go_wp2_with (with_reducible refine HG.out.mono ?_;rintro e w1 ⟨rfl,rfl⟩)
 refine HFi.out.mono ?_
 rintro e w2 ⟨rfl,hb2⟩
 unfold Be.repV
 obtain ⟨rp1,rp2⟩:=rp
 have hb3 : Below w2.heap.size w2 (w2.alloc (.cells #[.int .i64 rp1,.bool rp2,.slice none 0 0] 52)):=(Below.refl _ _).alloc (Nat.le_refl _) _
 have H3:=(H1.out.below hb2).below hb3
 have HS:=Lib.hid (sis_any H3 2)
 rw [show (k.st == 2) = true by simp [hst]] at HS
 have Y3:=(HY.out.keep (hb2.block _ HY.out.lt)).keep (hb3.block _ (Nat.lt_of_lt_of_le HY.out.lt hb2.size))
 have X3:=(HX.out.keep (hb2.block _ HX.out.lt)).keep (hb3.block _ (Nat.lt_of_lt_of_le HX.out.lt hb2.size))
 have p0:=X3.cell (j:=0) (u:=.int .i64 1) rfl
 have p1:=X3.cell (j:=1) (u:=.int .i64 x) rfl
 have p2:=X3.cell (j:=2) (u:=.slice A n c) rfl
 have p3:=X3.cell (j:=3) (u:=.int .i64 K) rfl
 have pl:=X3.lt
 have hbw3 : Below w.heap.size w (w2.alloc (.cells #[.int .i64 rp1,.bool rp2,.slice none 0 0] 52)):=(HB.out.trans (hb2.mono HB.out.size)).trans (hb3.mono (Nat.le_trans HB.out.size hb2.size))
 have HC3:=Lib.hid (HCH.out _ hbw3)
 have HBf:=Lib.hid hbw3
 have HY3:=Lib.hid Y3
 clear H3 Y3 X3 hb3 hb2 hbw3 o1 o2 o3
 go_wp2_with fail
 refine HS.out.mono ?_
 rintro e w3 ⟨rfl,rfl⟩
 go_wp2_with fail
 refine HC3.out.mono ?_
 rintro e w4 ⟨rfl,hb4⟩
 have Y5:=HY3.out.keep (hb4.block _ HY3.out.lt)
 have y0:=Y5.cell (j:=0) (u:=.int .i64 0) rfl
 have y1:=Y5.cell (j:=1) (u:=.bool false) rfl
 have y2:=Y5.cell (j:=2) (u:=.slice none 0 0) rfl
 have yz:=fun j=>Y5.frozen j
 have yl:=Y5.lt
 have HBe:=Lib.hid (HBf.out.trans (hb4.mono HBf.out.size))
 clear hb4 Y5
 go_wp2_with fail
 refine bodyPost_ret (v:=swrV (0,false) 50) (by simp [results,Tryz.results16,go_sem,swrV,y0,y1,y2,yl]) rfl ⟨rfl,?_⟩
 exact ((HBe.out.setCell (by simp) _).setCell (by simp) _).setCell (by simp) _
end
end
section
open Go Go.RowKit
structure W1 where
 er : Int
 was : Bool
 e0 : Int
 R : List RK
 k : KS
def wr1 (k : KS) (cl sq kd x : Int) (vec : List Int) : W1 :=
 if kd ≠ 1 /\ kd ≠ 2 then ⟨0,false,1,[],k⟩
 else if (Be.findM k.q cl sq).2 ≠ 3 then ⟨(Be.findM k.q cl sq).1.1,(Be.findM k.q cl sq).1.2,(Be.findM k.q cl sq).2,[],k⟩
 else if kd = 1 then (if ck vec (k.dm : Int) = 0 then ⟨0,hasT x k.T,0,[RK.ins cl sq (x,vec)],insK k cl sq (x,vec)⟩ else ⟨0,false,50,[],k⟩)
 else ⟨0,hasT x k.T,0,[RK.drop cl sq x],dropK k cl sq x⟩
theorem find_er {q : List Be.E} {c n : Int} (hm : Be.mayB c n = true) : (Be.findM q c n).2 ≠ 1:=by
 unfold Be.findM
 rw [if_pos hm]
 split
 ·simp
 ·split <;> simp
theorem may_s64 {cl sq : Int} (hm : Be.mayB cl sq = true) : Be.S64 cl /\ Be.S64 sq:=by
 simp only [Be.mayB,Be.cliB,Be.seqB,Bool.and_eq_true,decide_eq_true_eq] at hm
 exact ⟨⟨by omega,by omega⟩,⟨by omega,by omega⟩⟩
section
variable {w : World} {B : Nat} {Z : Nat -> Prop} {s d tn : Nat} {R : List RK} {k : KS}
theorem wrp_same {e : Ending} {w' : World} {rp : Int × Bool} {e0 : Int} (h : ShW w B Z s d 4000 tn R k) (he : e = .returned (swrV rp e0)) (hb : Below w.heap.size w w') : WrP B Z s d tn (R ++ []) k rp.1 rp.2 e0 w e w':=by
 rw [List.append_nil]
 exact ⟨he,Z,h.below hb,Turn.below _ hb⟩
theorem wx_any (h : ShW w B Z s d 4000 tn R k) (hst : k.st = 2) (cl sq kd x K : Int) (hm : Be.mayB cl sq = true) (hnp : NoPts R) (hr : R.length <= 100) (hfew : k.T.length < 512) (hv1 : k.vr < 1000000000) (h3 : Be.S64 x) {A : Option Addr} {n c : Nat} {vec : List Int}
  (hrd : Reads w w.heap.size 1 A n (ints vec)) (hn : n <= maxLen) (hA : 0 < n -> ∀ ad,A = some ad -> ¬ Z ad.block) :
  Calls Tryz.prog 16 #[.pointer (some ⟨s,0,none⟩),.int .i64 cl,.int .i64 sq,.agg #[.int .i64 kd,.int .i64 x,.slice A n c,.int .i64 K]] w (WrP B Z s d tn (R ++ (wr1 k cl sq kd x vec).R) (wr1 k cl sq kd x vec).k (wr1 k cl sq kd x vec).er (wr1 k cl sq kd x vec).was (wr1 k cl sq kd x vec).e0 w):=by
 have h0:=h
 have hen:=h.encs1 hnp
 have hB:=hB_big tn
 have hc64:=may_s64 hm
 have hg:=h.good
 obtain ⟨Fd,Gd,Fk,Ft,lp,g,t,p,st,su,h,rfl⟩:=h
 unfold wr1
 by_cases hk : kd ≠ 1 /\ kd ≠ 2
 ·rw [if_pos hk]
  refine (write_kind h cl sq x K kd hk A n c).mono ?_
  rintro e w' ⟨he,hb⟩
  exact wrp_same (rp:=(0,false)) h0 he hb
 ·rw [if_neg hk]
  have hk12 : kd = 1 \/ kd = 2:=by omega
  by_cases hf : (Be.findM k.q cl sq).2 ≠ 3
  ·rw [if_pos hf]
   refine (write_again h hst cl sq x K kd hk12 A n c hm (Be.findM k.q cl sq).1 (Be.findM k.q cl sq).2 rfl hf (find_er hm)).mono ?_
   rintro e w' ⟨he,hb⟩
   exact wrp_same (rp:=(Be.findM k.q cl sq).1) h0 he hb
  ·rw [if_neg hf]
   have hf3 : (Be.findM k.q cl sq).2 = 3:=Classical.not_not.1 hf
   by_cases h1 : kd = 1
   ·subst h1
    rw [if_pos rfl]
    by_cases hck : ck vec (k.dm : Int) = 0
    ·rw [if_pos hck]
     have hmay : (RK.ins cl sq (x,vec)).May k:=⟨hc64.1,hc64.2,h3,hck,.inr hfew,hg.v0,hg.v1⟩
     have hbl : (RK.bytes (RK.ins cl sq (x,vec))).length <= 32768:=recB_len (RK.May.ok hmay)
     have hn0 : 0 < n:=by
      have e1:=((ck_zero vec (k.dm : Int)).1 hck).2
      have e2:=hrd.1
      rw [ints_len] at e2
      have:=hg.d1
      omega
     refine (write_ins h hst cl sq x K A n c vec hm hf3 hrd hn hfew hck (hA hn0) h3 hv1 (by omega)).mono ?_
     rintro e w' ⟨he,Z',h4,h5⟩
     exact ⟨he,Z',h4,h5⟩
    ·rw [if_neg hck]
     have h50 : ck vec (k.dm : Int) = 50:=(ck_or vec (k.dm : Int)).resolve_left hck
     refine (write_bad h hst cl sq x K A n c vec hm hf3 hrd hn hfew h50).mono ?_
     rintro e w' ⟨he,hb⟩
     exact wrp_same (rp:=(0,false)) h0 he hb
   ·obtain rfl : kd = 2:=by omega
    rw [if_neg h1]
    have hmay : (RK.drop cl sq x).May k:=⟨hc64.1,hc64.2,h3,hg.v0,hg.v1⟩
    have hbl : (RK.bytes (RK.drop cl sq x)).length <= 32768:=recB_len (RK.May.ok hmay)
    refine (write_drop h hst cl sq x K A n c hm hf3 h3 hv1 (by omega)).mono ?_
    rintro e w' ⟨he,Z',h4,h5⟩
    exact ⟨he,Z',h4,h5⟩
def QPost (P : Nat -> Prop) (r : W1) (w : World) (e : Ending) (w' : World) : Prop :=
 ∃ (A' : Option Addr) (c' : Nat) (l' : List Pt),e = .returned (.tuple #[.agg (qV r.k.dm 2 r.k.ep r.k.mv r.k.vr (.slice A' l'.length c') r.k.q).toArray,.agg #[.int .i64 r.er,.bool r.was,.slice none 0 0],.int .i64 r.e0]) /\ DocW w' (NewP P w w') A' c' l' /\ l'.map bareP = r.k.T /\ Below w.heap.size w w'
theorem qpost_same {P : Nat -> Prop} {A0 : Option Addr} {c0 : Nat} {l : List Pt} (hD : DocW w P A0 c0 l) (hl : l.map bareP = k.T) {e : Ending} {w' : World} {er e0 : Int} {was : Bool}
  (he : e = .returned (.tuple #[.agg (qV k.dm 2 k.ep k.mv k.vr (.slice A0 l.length c0) k.q).toArray,.agg #[.int .i64 er,.bool was,.slice none 0 0],.int .i64 e0])) (hb : Below w.heap.size w w') : QPost P ⟨er,was,e0,[],k⟩ w e w' :=
 ⟨A0,c0,l,he,(hD.below hb).more (fun b hP=>.inl hP) (newP_lt hD.lt hb.size),hl,hb⟩
theorem qx_any {P : Nat -> Prop} {A0 : Option Addr} {c0 : Nat} {l : List Pt} (hD : DocW w P A0 c0 l) (hl : l.map bareP = k.T) (hg : k.Good) (cl sq kd x K : Int) (hm : Be.mayB cl sq = true) (hfew : k.T.length < 512) (hv1 : k.vr < 1000000000) {A : Option Addr} {n c : Nat} {vec : List Int}
  (hp : PtIn w P (x,(A,n,c),vec)) :
  Calls Tryz.prog 35 #[.agg (qV k.dm 2 k.ep k.mv k.vr (.slice A0 l.length c0) k.q).toArray,.int .i64 cl,.int .i64 sq,.agg #[.int .i64 kd,.int .i64 x,.slice A n c,.int .i64 K]] w (QPost P (wr1 k cl sq kd x vec) w):=by
 have hq:=hg.tab.len
 have hll : l.length = k.T.length:=by rw [<- hl,List.length_map]
 have hrise : Rise (l.map bareP):=by rw [hl];exact hg.rise
 unfold wr1
 by_cases hk : kd ≠ 1 /\ kd ≠ 2
 ·rw [if_pos hk]
  refine (rwrite_kind k.dm 2 k.ep k.mv k.vr cl sq kd x K (.slice A0 l.length c0) k.q A n c hq rfl (by simpa using hk.1) (by simpa using hk.2) w).mono ?_
  rintro e w' ⟨he,hb⟩
  exact qpost_same hD hl he hb
 ·rw [if_neg hk]
  by_cases hf : (Be.findM k.q cl sq).2 ≠ 3
  ·rw [if_pos hf]
   have e1 : ((Be.findM k.q cl sq).2 == 1) = false:=by simpa using find_er hm
   have e3 : ((Be.findM k.q cl sq).2 != 3) = true:=by simpa using hf
   rcases (show kd = 1 \/ kd = 2 by omega) with rfl | rfl
   ·refine (rwrite_had1 k.dm k.ep k.mv k.vr cl sq x K (.slice A0 l.length c0) k.q A n c hq rfl (Be.findM k.q cl sq).1 (Be.findM k.q cl sq).2 rfl e1 e3 w).mono ?_
    rintro e w' ⟨he,hb⟩
    exact qpost_same hD hl he hb
   ·refine (rwrite_had2 k.dm k.ep k.mv k.vr cl sq x K (.slice A0 l.length c0) k.q A n c hq rfl (Be.findM k.q cl sq).1 (Be.findM k.q cl sq).2 rfl e1 e3 w).mono ?_
    rintro e w' ⟨he,hb⟩
    exact qpost_same hD hl he hb
  ·rw [if_neg hf]
   have hf3 : (Be.findM k.q cl sq).2 = 3:=Classical.not_not.1 hf
   have hre : Be.findM k.q cl sq = ((Be.findM k.q cl sq).1,3):=by rw [<- hf3]
   by_cases h1 : kd = 1
   ·subst h1
    rw [if_pos rfl]
    by_cases hck : ck vec (k.dm : Int) = 0
    ·rw [if_pos hck]
     have ha : putA k.dm x vec (l.map bareP) = (hasT x k.T,0):=by
      unfold putA
      rw [if_pos hck,hl,if_pos (.inr hfew)]
     refine (rwrite_ins k.dm k.ep k.mv k.vr cl sq x K hg.v0 hv1 k.q hg.tab A A0 n c c0 l vec (hasT x k.T) hq _ hre w hD hrise (by omega) hp ha).mono ?_
     rintro e w' ⟨A',c',l',he,hD',hl',hb⟩
     refine ⟨A',c',l',he,hD',?_,hb⟩
     rw [hl']
     unfold putR
     rw [hl,if_pos ⟨hck,.inr hfew⟩]
     rfl
    ·rw [if_neg hck]
     have ha : putA k.dm x vec (l.map bareP) = (false,50):=by
      unfold putA
      rw [if_neg hck]
     refine (rwrite_bad k.dm k.ep k.mv k.vr cl sq x K hg.v0 hv1 k.q hg.tab A A0 n c c0 l vec hq _ hre w hD hrise (by omega) hp ha).mono ?_
     rintro e w' ⟨he,hb⟩
     exact qpost_same hD hl he hb
   ·obtain rfl : kd = 2:=by omega
    rw [if_neg h1]
    refine (rwrite_drop k.dm k.ep k.mv k.vr cl sq x K hg.v0 hv1 k.q hg.tab A A0 n c c0 l (hasT x k.T) hq _ hre w hD hrise (by omega) (by rw [hl])).mono ?_
    rintro e w' ⟨A',c',l',he,hD',hl',hb⟩
    exact ⟨A',c',l',he,hD',by rw [hl',hl];rfl,hb⟩
end
structure SurI (i : Nat) (R : List RK) (k : KS) : Prop where
 st : k.st = 2
 dm : k.dm = 2
 v0 : 0 <= k.vr
 vr : k.vr <= (i : Int)
 np : NoPts R
 len : R.length <= i + 1
 few : k.T.length <= i
 last : ∀ c,c < 8 -> k.q[c]!.s <= (i : Int)
theorem put_others {q : List Be.E} (hq : Be.Okq q) {c n : Int} (hm : Be.mayB c n = true) (was : Bool) (i : Nat) (h : ∀ j,j < 8 -> q[j]!.s <= (i : Int)) (hn : n <= (i : Int) + 1) : ∀ j,j < 8 -> ((Be.putM q c n 0 was).1)[j]!.s <= ((i + 1 : Nat) : Int):=by
 intro j hj
 unfold Be.putM
 split
 ·split
  ·have:=h j hj
   show q[j]!.s <= _
   omega
  ·show (q.set c.toNat ⟨n,0,was⟩)[j]!.s <= _
   have hl:=hq.len
   by_cases he : c.toNat = j
   ·rw [getElem!_pos _ j (by simp;omega),List.getElem_set,if_pos he]
    show n <= _
    omega
   ·rw [getElem!_pos _ j (by simp;omega),List.getElem_set,if_neg he]
    have:=h j hj
    rw [getElem!_pos q j (by omega)] at this
    omega
 ·have:=h j hj
  show q[j]!.s <= _
  omega
theorem SurI.more {i : Nat} {R : List RK} {k : KS} (h : SurI i R k) : SurI (i + 1) R k :=
 ⟨h.st,h.dm,h.v0,by have:=h.vr;omega,h.np,by have:=h.len;omega,by have:=h.few;omega,fun c hc=>by have:=h.last c hc;omega⟩
theorem SurI.step {i : Nat} {R : List RK} {k : KS} (h : SurI i R k) (hg : k.Good) {cl sq : Int} (hm : Be.mayB cl sq = true) (hs : sq <= (i : Int) + 1) (kd x : Int) (vec : List Int) : SurI (i + 1) (R ++ (wr1 k cl sq kd x vec).R) (wr1 k cl sq kd x vec).k:=by
 have h0 : SurI (i + 1) (R ++ []) k:=by rw [List.append_nil];exact h.more
 unfold wr1
 split
 ·exact h0
 ·split
  ·exact h0
  ·split
   ·split
    ·have hl:=hasT_len (x:=x) (v:=vec) hg.rise
     refine ⟨h.st,h.dm,by show 0 <= k.vr + 1;have:=h.v0;omega,by show k.vr + 1 <= _;have:=h.vr;omega,h.np.snoc (fun m e=>by cases e),by rw [List.length_append];have:=h.len;simp;omega,?_,put_others hg.tab hm _ i h.last hs⟩
     show (putT x vec k.T).length <= i + 1
     have:=h.few
     split at hl <;> omega
    ·exact h0
   ·refine ⟨h.st,h.dm,by show 0 <= k.vr + 1;have:=h.v0;omega,by show k.vr + 1 <= _;have:=h.vr;omega,h.np.snoc (fun m e=>by cases e),by rw [List.length_append];have:=h.len;simp;omega,?_,put_others hg.tab hm _ i h.last hs⟩
    show (delT x k.T).length <= i + 1
    have:=h.few
    have : (delT x k.T).length <= k.T.length:=List.length_filter_le ..
    omega
theorem wr1_again (k : KS) (hq : Be.Okq k.q) {cl sq : Int} (hm : Be.mayB cl sq = true) (kd x : Int) (vec : List Int) : (wr1 (wr1 k cl sq kd x vec).k cl sq kd x vec).k = (wr1 k cl sq kd x vec).k /\ (wr1 (wr1 k cl sq kd x vec).k cl sq kd x vec).R = []:=by
 by_cases hk : kd ≠ 1 /\ kd ≠ 2
 ·have e : wr1 k cl sq kd x vec = ⟨0,false,1,[],k⟩:=by unfold wr1;rw [if_pos hk]
  rw [e]
  simp only
  rw [e]
  exact ⟨rfl,rfl⟩
 ·by_cases hf : (Be.findM k.q cl sq).2 ≠ 3
  ·have e : wr1 k cl sq kd x vec = ⟨(Be.findM k.q cl sq).1.1,(Be.findM k.q cl sq).1.2,(Be.findM k.q cl sq).2,[],k⟩:=by unfold wr1;rw [if_neg hk,if_pos hf]
   rw [e]
   simp only
   rw [e]
   exact ⟨rfl,rfl⟩
  ·have hf3 : (Be.findM k.q cl sq).2 = 3:=Classical.not_not.1 hf
   have again : ∀ (k' : KS) (was : Bool),Be.findM k'.q cl sq = ((0,was),0) -> wr1 k' cl sq kd x vec = ⟨0,was,0,[],k'⟩:=fun k' was hk'=>by
    unfold wr1
    rw [if_neg hk,hk',if_pos (by simp)]
   by_cases h1 : kd = 1
   ·by_cases hck : ck vec (k.dm : Int) = 0
    ·have e : wr1 k cl sq kd x vec = ⟨0,hasT x k.T,0,[RK.ins cl sq (x,vec)],insK k cl sq (x,vec)⟩:=by unfold wr1;rw [if_neg hk,if_neg hf,if_pos h1,if_pos hck]
     rw [e]
     simp only
     rw [again _ _ (find_put hq hm hf3 (hasT x k.T))]
     exact ⟨rfl,rfl⟩
    ·have e : wr1 k cl sq kd x vec = ⟨0,false,50,[],k⟩:=by unfold wr1;rw [if_neg hk,if_neg hf,if_pos h1,if_neg hck]
     rw [e]
     simp only
     rw [e]
     exact ⟨rfl,rfl⟩
   ·have e : wr1 k cl sq kd x vec = ⟨0,hasT x k.T,0,[RK.drop cl sq x],dropK k cl sq x⟩:=by unfold wr1;rw [if_neg hk,if_neg hf,if_neg h1]
    rw [e]
    simp only
    rw [again _ _ (find_put hq hm hf3 (hasT x k.T))]
    exact ⟨rfl,rfl⟩
end
section
open Go Go.RowKit
section
variable (dm ep mv vr : Int) (A : Option Addr) (n c : Nat) (q : List Be.E) (w : World)
theorem rver_any (hq : q.length = 8) : Calls Tryz.prog 41 #[.agg (qV dm 2 ep mv vr (.slice A n c) q).toArray] w fun e w'=>e = .returned (.int .i64 vr) /\ Below w.heap.size w w':=by
 have HB:=Lib.hid (fun o=>show Below w.heap.size w (w.alloc o) from (Below.refl _ w).alloc (Nat.le_refl _) o)
 have x1 : ∀ h,(qV dm 2 ep mv vr (.slice A n c) q)[1]'h = (.int .i64 2):=fun _=>rfl
 have x2 : ∀ h,(qV dm 2 ep mv vr (.slice A n c) q)[4]'h = (.int .i64 vr):=fun _=>rfl
 have hxl : (qV dm 2 ep mv vr (.slice A n c) q).length = 31:=qV_len hq
 generalize qV dm 2 ep mv vr (.slice A n c) q = xs at *
 go_enter Tryz.func41,Tryz.ntmps41
 go_wp2
 go_ret
 exact ⟨rfl,HB.out _⟩
theorem rpts_any (hq : q.length = 8) : Calls Tryz.prog 42 #[.agg (qV dm 2 ep mv vr (.slice A n c) q).toArray] w fun e w'=>e = .returned (.slice A n c) /\ Below w.heap.size w w':=by
 have HB:=Lib.hid (fun o=>show Below w.heap.size w (w.alloc o) from (Below.refl _ w).alloc (Nat.le_refl _) o)
 have x1 : ∀ h,(qV dm 2 ep mv vr (.slice A n c) q)[1]'h = (.int .i64 2):=fun _=>rfl
 have x2 : ∀ h,(qV dm 2 ep mv vr (.slice A n c) q)[6]'h = (.slice A n c):=fun _=>rfl
 have hxl : (qV dm 2 ep mv vr (.slice A n c) q).length = 31:=qV_len hq
 generalize qV dm 2 ep mv vr (.slice A n c) q = xs at *
 go_enter Tryz.func42,Tryz.ntmps42
 go_wp2
 go_ret
 exact ⟨rfl,HB.out _⟩
end
end
section
open Go Go.RowKit
section
variable {ops : Array Oper} {rest : List Oper} {o : Oper} {a : Act} {Q : Exit -> Act -> World -> Prop} {W : World}
theorem st_side {x : Nat} {v0 v1 : Value} {xs ys : List Value} (hR : Row W x 48 (v0 :: v1 :: xs)) (hl : xs.length = 31) (hyl : ys.length = 31) (h1 : ∀ v ∈ ys,v.oneCell' = true) (hgd : o.guard = none) (y z : Operand) (ho : o.op = .store 46 y z) (hx : a.eval y = .pointer (some ⟨x,2,none⟩)) (hy : a.eval z = .agg ys.toArray)
  (h : ∀ W',Row W' x 48 (v0 :: v1 :: ys) -> W'.heap.size = W.heap.size -> W.grownBy W' (some x) -> wpList Tryz.prog ops Q rest (a.put o.dst undef) W') : wpList Tryz.prog ops Q (o :: rest) a W:=by
 obtain ⟨f1,f2,f3⟩:=Row.sets ys 2 hR
 have e : setsL (v0 :: v1 :: xs) 2 ys = v0 :: v1 :: ys:=setsL_app ys [v0,v1] xs (by rw [hl,hyl])
 rw [e] at f1
 exact wpList_store_mid hgd 46 y z ho x 2 ys.toArray hx hy (row_there hR (by simp [hl,hyl])) (by simp only [List.size_toArray,hyl];exact q10_size) (all_oneCell_toArray h1) (h _ f1 f2 f3)
end
end
section
open Go Go.RowKit
section
variable {P : Program} {ops : Array Oper} {Q : Exit -> Act -> World -> Prop} {md : Region.Mode} {S : World -> Prop} {fuel : Nat} {listed : Array Bool} {a : Act} {w : World}
theorem tk (i : Nat) {oi : Oper} {v : Value} (hi : ops[i]? = some oi) (hy : ∀ w,S w -> (execOp a.eval oi).run P w = .ok (.value v) w) (h : wpAnyH P md ops Q S fuel (listed.setIfInBounds i true) (a.put oi.dst v) w)
  (hs : Region.noSelect ops = true:=by kernel_rfl) (hf : Region.free md ops listed i = true:=by kernel_rfl) (hr : (Region.ready md ops listed).contains i = true:=by kernel_rfl) (hQ : ∀ c a w,Q (.panic c) (a.put oi.dst v) w -> Q (.panic c) a w:=by exact fun _ _ _ h=>h)
  (hw : Region.wanted oi (yielded ops a.tmps) = true:=by rfl) (hS : S w:=by assumption) : wpAnyH P md ops Q S (fuel + 1) listed a w:=wpAnyH_take hi hs hf hr hQ (.inl ⟨hw,hy⟩) hS h
theorem rd1 (i : Nat) {o : Oper} (ho : ops[i]? = some o) (h : ∀ K' : Act -> World -> Prop,Shut (∀ a w,S w -> (S w -> wpAnyH P md ops Q S fuel (listed.setIfInBounds i true) a w) -> K' a w) -> if Region.wanted o (yielded ops a.tmps) = true then Oper.wp P o a w K' Q else K' (a.put o.dst undef) w) (hr : Region.ready md ops listed = [i]:=by kernel_rfl) : wpAnyH P md ops Q S (fuel + 1) listed a w :=
 wpAnyH_ready hr (by simp) (AllReadyH.cons ho h AllReadyH.nil)
end
section
variable {α : Type} {a b c d e : α} {l : List α}
theorem mm0 : a ∈ a :: l:=List.mem_cons_self ..
theorem mm1 : b ∈ a :: b :: l:=List.mem_cons_of_mem _ mm0
theorem mm2 : c ∈ a :: b :: c :: l:=List.mem_cons_of_mem _ mm1
theorem mm3 : d ∈ a :: b :: c :: d :: l:=List.mem_cons_of_mem _ mm2
theorem mm4 : e ∈ a :: b :: c :: d :: e :: l:=List.mem_cons_of_mem _ mm3
end
structure Hp (w0 W : World) (L : List (Nat × TypeId × List Value)) (P : Nat -> Prop) (A : Option Addr) (c : Nat) (l : List Pt) : Prop where
 bel : Below w0.heap.size w0 W
 rows : ∀ r ∈ L,Row W r.1 r.2.1 r.2.2
 nodup : (L.map (·.1)).Nodup
 off : ∀ r ∈ L,¬ P r.1
 doc : DocW W P A c l
section
variable {w0 W W' : World} {L : List (Nat × TypeId × List Value)} {P : Nat -> Prop} {A A' : Option Addr} {c c' : Nat} {l l' : List Pt}
theorem Hp.lt (h : Hp w0 W L P A c l) : ∀ r ∈ L,r.1 < W.heap.size:=fun r hr=>(h.rows r hr).lt
theorem Hp.drew (h : Hp w0 W L P A c l) : Hp w0 W.drew L P A c l:=⟨h.bel.drew,h.rows,h.nodup,h.off,h.doc.keep (fun b _=>rfl) (Nat.le_refl _)⟩
theorem Hp.alloc (h : Hp w0 W L P A c l) (b : Nat) (hb : b = W.heap.size) (T : TypeId) (ys : List Value) : Hp w0 (W.alloc (.cells ys.toArray T)) ((b,T,ys) :: L) P A c l:=by
 subst hb
 have hB : Below W.heap.size W (W.alloc (.cells ys.toArray T)):=(Below.refl _ _).alloc (Nat.le_refl _) _
 refine ⟨h.bel.trans (hB.mono h.bel.size),fun r hr=>?_,?_,fun r hr=>?_,h.doc.below hB⟩
 ·rcases List.mem_cons.1 hr with rfl | hr
  ·exact Row.new W T ys
  ·exact (h.rows r hr).keep (hB.block _ (h.lt r hr))
 ·rw [List.map_cons,List.nodup_cons]
  refine ⟨fun hm=>?_,h.nodup⟩
  obtain ⟨r,hr,he⟩:=List.mem_map.1 hm
  have:=h.lt r hr
  simp only at he
  omega
 ·rcases List.mem_cons.1 hr with rfl | hr
  ·exact fun hP=>by have:=h.doc.lt _ hP;simp only at this;omega
  ·exact h.off r hr
theorem Hp.call (h : Hp w0 W L P A c l) (hb : Below W.heap.size W W') (hD : DocW W' (NewP P W W') A' c' l') : Hp w0 W' L (NewP P W W') A' c' l' :=
 ⟨h.bel.trans (hb.mono h.bel.size),fun r hr=>(h.rows r hr).keep (hb.block _ (h.lt r hr)),h.nodup,fun r hr hP=>hP.elim (h.off r hr) (fun h2=>by have:=h.lt r hr;omega),hD⟩
theorem Hp.store {L1 L2 : List (Nat × TypeId × List Value)} {b : Nat} {T : TypeId} {xs ys : List Value} (h : Hp w0 W (L1 ++ (b,T,xs) :: L2) P A c l) (hb : w0.heap.size <= b) (hR : Row W' b T ys) (hg : W.grownBy W' (some b)) : Hp w0 W' (L1 ++ (b,T,ys) :: L2) P A c l:=by
 have hbm : (b,T,xs) ∈ L1 ++ (b,T,xs) :: L2:=by simp
 have hnd:=h.nodup
 simp only [List.map_append,List.map_cons] at hnd
 rw [List.nodup_append] at hnd
 obtain ⟨n1,n2,n3⟩:=hnd
 rw [List.nodup_cons] at n2
 have hoth : ∀ r,r ∈ L1 \/ r ∈ L2 -> r.1 ≠ b:=fun r hr he=>by
  rcases hr with hr | hr
  ·exact n3 r.1 (List.mem_map.2 ⟨r,hr,rfl⟩) b (by simp) he
  ·exact n2.1 (by rw [<- he];exact List.mem_map.2 ⟨r,hr,rfl⟩)
 have hkeep : ∀ j,j < W.heap.size -> j ≠ b -> W'.heap[j]? = W.heap[j]?:=fun j hj hne=>hg.block j hj (fun e=>hne (by injection e))
 have hPb : ∀ j,P j -> j ≠ b:=fun j hP e=>h.off _ hbm (by rw [<- e];exact hP)
 refine ⟨⟨hg.os.trans h.bel.os,hg.tape.trans h.bel.tape,hg.output.trans h.bel.output,Nat.le_trans h.bel.size hg.size,fun j hj=>(hkeep j (Nat.lt_of_lt_of_le hj h.bel.size) (by omega)).trans (h.bel.block j hj)⟩,fun r hr=>?_,?_,fun r hr=>?_,h.doc.keep (fun j hP=>hkeep j (h.doc.lt j hP) (hPb j hP)) hg.size⟩
 ·rcases List.mem_append.1 hr with hr | hr
  ·exact (h.rows r (List.mem_append.2 (.inl hr))).keep (hkeep _ (h.lt r (List.mem_append.2 (.inl hr))) (hoth r (.inl hr)))
  ·rcases List.mem_cons.1 hr with rfl | hr
   ·exact hR
   ·have hm : r ∈ L1 ++ (b,T,xs) :: L2:=List.mem_append.2 (.inr (List.mem_cons_of_mem _ hr))
    exact (h.rows r hm).keep (hkeep _ (h.lt r hm) (hoth r (.inr hr)))
 ·have:=h.nodup
  simpa only [List.map_append,List.map_cons] using this
 ·rcases List.mem_append.1 hr with hr | hr
  ·exact h.off r (List.mem_append.2 (.inl hr))
  ·rcases List.mem_cons.1 hr with rfl | hr
   ·exact (show ¬ P b from h.off _ hbm)
   ·exact h.off r (List.mem_append.2 (.inr (List.mem_cons_of_mem _ hr)))
end
theorem yields_side {o : Oper} {ρ : Operand -> Value} {x : Nat} {v0 v1 : Value} {xs : List Value} {w : World} (h : Row w x 48 (v0 :: v1 :: xs)) (hl : xs.length = 31) (y : Operand) (ho : o.op = .load 46 y) (hx : ρ y = .pointer (some ⟨x,2,none⟩)) : (execOp ρ o).run Tryz.prog w = .ok (.value (.agg xs.toArray)) w:=by
 have hr:=run_loadVar_mid (P:=Tryz.prog) w x 2 46 xs _ (fun j v hv=>h.cell (show (v0 :: v1 :: xs)[2 + j]? = some v by rw [Nat.add_comm];exact hv)) Tryz.underlying46 rfl (by rw [hl];exact q10_size)
 unfold execOp
 simp only [ho,hx,Instr.loadAt,Instr.sureAddr,Sem.run_bind,Sem.run_pure,Result.andThen_ok,hr]
structure SX (w : World) (B : Nat) (Z : Nat -> Prop) (x s d tn : Nat) (R : List RK) (k : KS) (P : Nat -> Prop) (A0 : Option Addr) (c0 : Nat) (l : List Pt) : Prop where
 side : Side w B Z x s d tn R k (qV k.dm 2 k.ep k.mv k.vr (.slice A0 l.length c0) k.q)
 st : k.st = 2
 doc : DocW w P A0 c0 l
 eq : l.map bareP = k.T
 off : ∀ b,P b -> ¬ Z b /\ b ≠ x
 low : ∀ b,b < B -> P b
end
end Go.Proofs.YtegjjhjgfkcbhaaGreatDoor
