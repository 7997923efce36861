/- Log App WApp WDrop Copy. Conditions: as each part says. -/
import Derived.Test.YtegjjhjgfkcbhaaGreatDoorQ15
import Derived.Test.YtegjjhjgfkcbhaaGreatDoorQ17
import Derived.Test.YtegjjhjgfkcbhaaGreatDoorQ18
import Derived.StillTailTactics
import Derived.Lib.LazyBuf
import Derived.Lib.AppendStr
import Derived.Lib.BufferRead
import Derived.Test.YtegjjhjgfkcbhaaGreatDoorQ12
set_option linter.unusedVariables false
set_option linter.unusedSimpArgs false
set_option maxRecDepth 100000
set_option maxHeartbeats 16000000
namespace Go.Proofs.YtegjjhjgfkcbhaaGreatDoor
section
open Go Go.RowKit
theorem bytes_ne {s s' : ByteArray} (h : ¬ s = s') : (s.toList == s'.toList) = false:=by
 rw [beq_eq_false_iff_ne,Ne,Go.ByteArray.toList_eq,Go.ByteArray.toList_eq]
 intro e
 exact h (ByteArray.ext (Array.toList_inj.1 e))
theorem i64_and1 (n : Int) : bits .and .i64 n 1 = n % 2:=by
 have hm : (BitVec.ofInt 64 1).toNat = 2 ^ 1 - 1:=by decide
 have key : (BitVec.ofInt 64 n &&& BitVec.ofInt 64 1).toNat = (n % ((2 ^ 64 : Nat) : Int)).toNat % 2 ^ 1:=by
  rw [BitVec.toNat_and,BitVec.toNat_ofInt,hm,Nat.and_two_pow_sub_one_eq_mod]
 show IntKind.i64.wrap ((BitVec.ofInt 64 n &&& BitVec.ofInt 64 1).toNat : Nat) = n % 2
 rw [key,IntKind.wrap_i64]
 omega
def hF (N t : Nat) : Nat:=if t % 2 = 0 then 2 else 2 + (N - 2) / 2
def hB (N t : Nat) : Nat:=if t % 2 = 0 then (N - 2) / 2 else (N - 2) - (N - 2) / 2
theorem hFB (N t : Nat) (h4 : 4 <= N) : 2 <= hF N t /\ hF N t + hB N t <= N /\ 0 < hB N t:=by
 unfold hF hB
 split <;> omega
def halfV (d f n : Nat) : Value:=.agg #[.pointer (some ⟨d,0,none⟩),.int .i64 (f : Int),.int .i64 (n : Int)]
def Hf (w : World) (B d f n : Nat) : Prop:=w.heap[B]? = some (.cells #[.pointer (some ⟨d,0,none⟩),.int .i64 (f : Int),.int .i64 (n : Int)] 156 (0,0))
section
variable {w w' : World} {B d f n : Nat}
theorem Hf.lt (h : Hf w B d f n) : B < w.heap.size:=(Array.getElem?_eq_some_iff.1 h).1
theorem Hf.c0 (h : Hf w B d f n) : w.cell? ⟨B,0,none⟩ = some (.pointer (some ⟨d,0,none⟩)):=by unfold Hf at h;simp [World.cell?,h]
theorem Hf.c1 (h : Hf w B d f n) : w.cell? ⟨B,1,none⟩ = some (.int .i64 (f : Int)):=by unfold Hf at h;simp [World.cell?,h]
theorem Hf.c2 (h : Hf w B d f n) : w.cell? ⟨B,2,none⟩ = some (.int .i64 (n : Int)):=by unfold Hf at h;simp [World.cell?,h]
theorem Hf.keep (h : Hf w B d f n) (e : w'.heap[B]? = w.heap[B]?) : Hf w' B d f n:=e.trans h
theorem Hf.below (h : Hf w B d f n) (hb : Below w.heap.size w w') : Hf w' B d f n:=h.keep (hb.block B h.lt)
theorem Hf.new (w : World) (d f n : Nat) : Hf (w.alloc (.cells #[.pointer (some ⟨d,0,none⟩),.int .i64 (f : Int),.int .i64 (n : Int)] 156)) w.heap.size d f n:=by
 show (w.heap.push _)[w.heap.size]? = _
 simp
theorem Hf.of3 {x y z u v r : Value} (h : w.heap[B]? = some (.cells #[x,y,z] 156 (0,0))) (h0 : u = .pointer (some ⟨d,0,none⟩)) (h1 : v = .int .i64 (f : Int)) (h2 : r = .int .i64 (n : Int)) :
  Hf (((w.setCell ⟨B,0,none⟩ u).setCell ⟨B,1,none⟩ v).setCell ⟨B,2,none⟩ r) B d f n:=by
 subst h0 h1 h2
 unfold Hf
 simp only [World.setCell,Array.getElem?_modify,h]
 simp
end
section
variable {w w' : World} {F : Nat -> Prop} {d N : Nat} {su : List ByteArray} {l : List (Nat × ByteArray)}
theorem halfOf_any (h : Disk w F d N su l) (t : Nat) (ht : t <= 1000000000) (h4 : 4 <= N) (hN : N <= 16384) : Calls Tryz.prog 91 #[.pointer (some ⟨d,0,none⟩),.int .i64 (t : Int)] w (Gives (halfV d (hF N t) (hB N t)) w):=by
 have hand:=i64_and1 (t : Int)
 have hbl:=fun q=>a_blocks ((h.alloc (.cells #[.pointer none,.int .i64 0,.int .i64 0] 156)).drewN q)
 have hb0 : Below w.heap.size w (w.alloc (.cells #[.pointer none,.int .i64 0,.int .i64 0] 156)):=(Below.refl _ w).alloc (Nat.le_refl _) _
 have hnew : ∀ q,((w.alloc (.cells #[.pointer none,.int .i64 0,.int .i64 0] 156)).drewN q).heap[w.heap.size]? = some (.cells #[.pointer none,.int .i64 0,.int .i64 0] 156 (0,0)):=fun q=>by
  show (w.heap.push _)[w.heap.size]? = _
  simp
 have HB:=Lib.hid hbl
 have HN:=Lib.hid hnew
 clear hbl hnew
 have key : ∀ (x y : Int),x = (hF N t : Int) -> y = (hB N t : Int) -> ∀ q,Hid (Hf (((((w.alloc (.cells #[.pointer none,.int .i64 0,.int .i64 0] 156)).drewN q).setCell ⟨w.heap.size,0,none⟩ (.pointer (some ⟨d,0,none⟩))).setCell ⟨w.heap.size,1,none⟩ (.int .i64 x)).setCell ⟨w.heap.size,2,none⟩ (.int .i64 y)) w.heap.size d (hF N t) (hB N t) /\
   Below w.heap.size w (((((w.alloc (.cells #[.pointer none,.int .i64 0,.int .i64 0] 156)).drewN q).setCell ⟨w.heap.size,0,none⟩ (.pointer (some ⟨d,0,none⟩))).setCell ⟨w.heap.size,1,none⟩ (.int .i64 x)).setCell ⟨w.heap.size,2,none⟩ (.int .i64 y))):=fun x y hx hy q =>
  Lib.hid ⟨Hf.of3 (HN.out q) rfl (by rw [hx]) (by rw [hy]),below_setCell (below_setCell (below_setCell (below_drewN hb0 q) (Nat.le_refl _) _) (Nat.le_refl _) _) (Nat.le_refl _) _⟩
 by_cases hp : t % 2 = 0
 ·have hz : (t : Int) % 2 = 0:=by omega
  rw [hz] at hand
  have HK:=key 2 (((N : Int) - 2) / 2) (by unfold hF;rw [if_pos hp];rfl) (by unfold hB;rw [if_pos hp];omega)
  clear hz hp h key
  go_enter Tryz.func91,Tryz.ntmps91
  go_wp2_with fail
  refine (HB.out 0).mono ?_
  rintro e w1 ⟨rfl,q,rfl⟩
  go_wp2_with fail
  obtain ⟨k1,k2⟩:=(HK q).out
  refine bodyPost_ret (v:=halfV d (hF N t) (hB N t)) ?_ rfl ⟨rfl,k2⟩
  simp [results,Tryz.results91,go_sem,k1.c0,k1.c1,k1.c2,halfV]
 ·have hz : (t : Int) % 2 = 1:=by omega
  rw [hz] at hand
  have HK:=key (2 + ((N : Int) - 2) / 2) (((N : Int) - 2) - ((N : Int) - 2) / 2) (by unfold hF;rw [if_neg hp];omega) (by unfold hB;rw [if_neg hp];omega)
  clear hz hp h key
  go_enter Tryz.func91,Tryz.ntmps91
  go_wp2_with fail
  refine (HB.out 0).mono ?_
  rintro e w1 ⟨rfl,q,rfl⟩
  go_wp2_with fail
  obtain ⟨k1,k2⟩:=(HK q).out
  refine bodyPost_ret (v:=halfV d (hF N t) (hB N t)) ?_ rfl ⟨rfl,k2⟩
  simp [results,Tryz.results91,go_sem,k1.c0,k1.c1,k1.c2,halfV]
theorem hbytes_any (w : World) (d f n : Nat) (hn : n <= 16384) : Calls Tryz.prog 154 #[halfV d f n] w (Gives (.int .i64 ((128 * n : Nat) : Int)) w):=by
 have hx:=Hf.new w d f n
 have hb0 : Below w.heap.size w (w.alloc (.cells #[.pointer (some ⟨d,0,none⟩),.int .i64 (f : Int),.int .i64 (n : Int)] 156)):=(Below.refl _ w).alloc (Nat.le_refl _) _
 have c2:=hx.c2
 have hl:=hx.lt
 unfold halfV
 go_enter Tryz.func154,Tryz.ntmps154
 go_wp2_with fail
 go_ret
 exact ⟨by push_cast;rw [Int.mul_comm];rfl,hb0⟩
theorem blocksOf_any (s : ByteArray) (hs : s.size <= 1000000000) (w : World) : Calls Tryz.prog 99 #[.string s] w fun e w'=>e = .returned (.int .i64 (((s.size + 127) / 128 : Nat) : Int)) /\ w = w':=by
 go_enter Tryz.func99,Tryz.ntmps99
 go_wp2_with fail
 go_ret
 refine ⟨?_,rfl⟩
 rw [show (((s.size + 127) / 128 : Nat) : Int) = ((s.size : Int) + 128 - 1) / 128 by omega]
 rfl
end
end
section
open Go Go.RowKit
section
variable {P : Program} (w : World)
theorem run_append_of_nil (base : Nat) (t ty e : TypeId) (i : TypeInfo) (size : Nat) (ht : P.underlying t = some (.slice e)) (hi : P.info? e = some i)
  (v : Value) (n : Nat) (xs : List Value) (hown : w.ownsRow base e size v n xs) (c : Nat) : (Builtin.append_ #[t,t] ty #[v,.slice none 0 c]).run P w = .ok v w:=by
 rcases hown.2 with ⟨rfl,rfl⟩ | ⟨g,cap,cur,rfl,_,_,hnc,_⟩
 ·simp [Builtin.append_,run_underlying ht,sizeOf,typeInfo,hi,Builtin.lenOf,Builtin.firstCells]
 ·simp [Builtin.append_,run_underlying ht,sizeOf,typeInfo,hi,Builtin.lenOf,Builtin.firstCells,hnc,storeCells]
theorem run_append_any (base : Nat) (t ty e : TypeId) (i : TypeInfo) (z : Value) (size bytes : Nat) (ht : P.underlying t = some (.slice e)) (hi : P.info? e = some i) (hz : i.zero = some z)
  (hsize : i.size = size) (hby : i.bytes = bytes) (hzs : z.cells.size = size) (hsz : 0 < size)
  (v : Value) (n : Nat) (xs : List Value) (hown : w.ownsRow base e size v n xs)
  (B : Nat) (A : Option Addr) (m c : Nat) (news : List Value) (hr : Reads w B size A m news) (h1 : ∀ u ∈ news,u.oneCell' = true)
  (h63 : n + m <= maxLen) (hbytes : (n + m) * bytes <= 140737488355328) (hbase : base <= w.heap.size) :
  ∃ v' w',(Builtin.append_ #[t,t] ty #[v,.slice A m c]).run P w = .ok v' w' /\ w'.ownsRow base e size v' (n + m) (xs ++ news) /\ w.grownBy w' v.ownBlock /\
   (v'.ownBlock = v.ownBlock \/ v'.ownBlock = some w.heap.size):=by
 rcases A with _ | ad
 ·have hm : m = 0:=by
   rcases Nat.eq_zero_or_pos m with h0 | h0
   ·exact h0
   ·obtain ⟨ad,h,_⟩:=hr.2 h0
    cases h
  subst hm
  have hn : news = []:=List.eq_nil_of_length_eq_zero (by simpa using hr.1)
  subst hn
  exact ⟨v,w,run_append_of_nil w base t ty e i size ht hi v n xs hown c,by simpa using hown,World.grownBy.refl w _,.inl rfl⟩
 ·have hcells : ∀ j u,news[j]? = some u -> w.cell? (ad.add j) = some u:=by
   intro j u hu
   rcases Nat.eq_zero_or_pos m with h0 | h0
   ·subst h0
    have hn : news = []:=List.eq_nil_of_length_eq_zero (by simpa using hr.1)
    subst hn
    simp at hu
   ·obtain ⟨ad',h,_,hc⟩:=hr.2 h0
    injection h with h
    subst h
    exact hc j u hu
  obtain ⟨v',w',hrun,h2,h3,_,h5⟩:=run_append_own_at (P:=P) w base t ty e i z size bytes ht hi hz hsize hby hzs hsz v n xs hown ad m c news hr.1 hcells h1 h63 hbytes hbase
  exact ⟨v',w',hrun,h2,h3,h5⟩
theorem wp_append_any {o : Oper} {a : Act} {K : Act -> World -> Prop} {Q : Exit -> Act -> World -> Prop} (s x : Operand) (t : TypeId)
  (ho : o.op = .call { callee:=.builtin .append,args:=#[s,x],argTypes:=#[t,t] })
  (base : Nat) (e : TypeId) (i : TypeInfo) (z : Value) (size bytes : Nat) (ht : P.underlying t = some (.slice e)) (hi : P.info? e = some i) (hz : i.zero = some z)
  (hsize : i.size = size) (hby : i.bytes = bytes) (hzs : z.cells.size = size) (hsz : 0 < size)
  (v : Value) (n : Nat) (xs : List Value) (hs : a.eval s = v) (hown : w.ownsRow base e size v n xs)
  (B : Nat) (A : Option Addr) (m c : Nat) (news : List Value) (hx : a.eval x = .slice A m c) (hr : Reads w B size A m news) (h1 : ∀ u ∈ news,u.oneCell' = true)
  (h63 : n + m <= maxLen) (hbytes : (n + m) * bytes <= 140737488355328) (hbase : base <= w.heap.size)
  (h : ∀ v' w',w'.ownsRow base e size v' (n + m) (xs ++ news) -> w.grownBy w' v.ownBlock -> (v'.ownBlock = v.ownBlock \/ v'.ownBlock = some w.heap.size) -> K (a.put o.dst v') w') : o.wp P a w K Q:=by
 obtain ⟨v',w',hrun,h2,h3,h4⟩:=run_append_any (P:=P) w base t o.type e i z size bytes ht hi hz hsize hby hzs hsz v n xs hown B A m c news hr h1 h63 hbytes hbase
 unfold Oper.wp execOp
 simp only [ho,resolve,invoke,builtin,Sem.run_bind,Sem.run_pure,Result.andThen_ok,List.map_toArray,List.map_cons,List.map_nil,hs,hx,hrun]
 exact h v' w' h2 h3 h4
theorem wpList_append_any {ops : Array Oper} {rest : List Oper} {o : Oper} {a : Act} {Q : Exit -> Act -> World -> Prop} (hgd : o.guard = none) (s x : Operand) (t : TypeId)
  (ho : o.op = .call { callee:=.builtin .append,args:=#[s,x],argTypes:=#[t,t] })
  (base : Nat) (e : TypeId) (i : TypeInfo) (z : Value) (size bytes : Nat) (ht : P.underlying t = some (.slice e)) (hi : P.info? e = some i) (hz : i.zero = some z)
  (hsize : i.size = size) (hby : i.bytes = bytes) (hzs : z.cells.size = size) (hsz : 0 < size)
  (v : Value) (n : Nat) (xs : List Value) (hs : a.eval s = v) (hown : w.ownsRow base e size v n xs)
  (B : Nat) (A : Option Addr) (m c : Nat) (news : List Value) (hx : a.eval x = .slice A m c) (hr : Reads w B size A m news) (h1 : ∀ u ∈ news,u.oneCell' = true)
  (h63 : n + m <= maxLen) (hbytes : (n + m) * bytes <= 140737488355328) (hbase : base <= w.heap.size)
  (h : ∀ v' w',w'.ownsRow base e size v' (n + m) (xs ++ news) -> w.grownBy w' v.ownBlock -> (v'.ownBlock = v.ownBlock \/ v'.ownBlock = some w.heap.size) -> wpList P ops Q rest (a.put o.dst v') w') : wpList P ops Q (o :: rest) a w :=
 wpList_plain hgd fun _ hK=>wp_append_any w s x t ho base e i z size bytes ht hi hz hsize hby hzs hsz v n xs hs hown B A m c news hx hr h1 h63 hbytes hbase fun v' w' h2 h3 h4=>hK _ _ (h v' w' h2 h3 h4)
end
theorem run_append_str_at {P : Program} (w : World) (base : Nat) (t u ty e : TypeId) (i : TypeInfo) (ht : P.underlying t = some (.slice e)) (hu : P.underlying u = some .string) (hi : P.info? e = some i) (hz : i.zero = some (.int .u8 0))
  (hsize : i.size = 1) (hby : i.bytes = 1) (v : Value) (n : Nat) (xs : List Value) (hown : w.ownsRow base e 1 v n xs) (s : ByteArray) (h63 : n + s.size <= maxLen) (hbytes : n + s.size <= 140737488355328) (hbase : base <= w.heap.size) :
  ∃ v' w',(Builtin.append_ #[t,u] ty #[v,.string s]).run P w = .ok v' w' /\ w'.ownsRow base e 1 v' (n + s.size) (xs ++ Lib.strCells s) /\ w.grownBy w' v.ownBlock /\ (v'.ownBlock = v.ownBlock \/ v'.ownBlock = some w.heap.size):=by
 obtain ⟨v',w',hrun,h2,h3,h4⟩:=Lib.run_append_own_string (P:=P) w base t u ty e i ht hu hi hz hsize hby v n xs hown s h63 hbytes hbase
 have hsmall : n + s.size <= 9223372036854775807:=by simp only [maxLen] at h63;omega
 refine ⟨v',w',hrun,h2,h3,?_⟩
 rcases hown.2 with ⟨rfl,rfl⟩ | ⟨g,cap,cur,rfl,hbg,hg,hnc,hcm,hcs,htake⟩
 ·by_cases hm : s.size = 0
  ·exact .inl (by rw [h4.2 ⟨rfl,hm⟩])
  ·have hr:=run_append_nil_string (P:=P) w t u ty e i (.int .u8 0) ht hu hi hz s (by omega) (by omega) (by rw [hby];omega)
   rw [hr] at hrun
   injection hrun with e1 _
   rw [<- e1]
   exact .inr rfl
 ·by_cases hroom : n + s.size <= cap
  ·have hr:=Lib.run_append_room_string (P:=P) w t u ty e i ht hu hi hsize g n cap cur hg s hroom (by simp at hcs;omega)
   rw [hr] at hrun
   injection hrun with e1 _
   rw [<- e1]
   exact .inl rfl
  ·have holds : ∀ j u,xs[j]? = some u -> w.cell? ((⟨g,0,none⟩ : Addr).add j) = some u:=hown.cells (g:=g) rfl
   have hr:=Lib.run_append_grow_string (P:=P) w t u ty e i (.int .u8 0) ht hu hi hz ⟨g,0,none⟩ n cap xs (by rw [hsize];exact hown.1) holds s (by omega) (by omega) (by rw [hby];exact growslice_fits (by omega) (by omega))
   rw [hr] at hrun
   injection hrun with e1 _
   rw [<- e1]
   exact .inr rfl
theorem wpList_append_str {P : Program} {w : World} {ops : Array Oper} {rest : List Oper} {o : Oper} {a : Act} {Q : Exit -> Act -> World -> Prop} (hgd : o.guard = none) (s x : Operand) (t u : TypeId)
  (ho : o.op = .call { callee:=.builtin .append,args:=#[s,x],argTypes:=#[t,u] })
  (base : Nat) (e : TypeId) (i : TypeInfo) (ht : P.underlying t = some (.slice e)) (hu : P.underlying u = some .string) (hi : P.info? e = some i) (hz : i.zero = some (.int .u8 0)) (hsize : i.size = 1) (hby : i.bytes = 1)
  (v : Value) (n : Nat) (xs : List Value) (hs : a.eval s = v) (hown : w.ownsRow base e 1 v n xs) (y : ByteArray) (hx : a.eval x = .string y)
  (h63 : n + y.size <= maxLen) (hbytes : n + y.size <= 140737488355328) (hbase : base <= w.heap.size)
  (h : ∀ v' w',w'.ownsRow base e 1 v' (n + y.size) (xs ++ Lib.strCells y) -> w.grownBy w' v.ownBlock -> (v'.ownBlock = v.ownBlock \/ v'.ownBlock = some w.heap.size) -> wpList P ops Q rest (a.put o.dst v') w') : wpList P ops Q (o :: rest) a w:=by
 refine wpList_plain hgd fun _ hK=>?_
 obtain ⟨v',w',hrun,h2,h3,h4⟩:=run_append_str_at (P:=P) w base t u o.type e i ht hu hi hz hsize hby v n xs hown y h63 hbytes hbase
 unfold Oper.wp execOp
 simp only [ho,resolve,invoke,builtin,Sem.run_bind,Sem.run_pure,Result.andThen_ok,List.map_toArray,List.map_cons,List.map_nil,hs,hx,hrun]
 exact hK _ _ (h v' w' h2 h3 h4)
theorem own_n {w : World} {base : Nat} {e : TypeId} {size : Nat} {v : Value} {n k : Nat} {xs : List Value} (hk : n = k) (h : w.ownsRow base e size v n xs) : w.ownsRow base e size v k xs:=by
 subst hk
 exact h
theorem below_of_grown {w w' : World} {row : Option Nat} (hg : w.grownBy w' row) (hr : row = none) : Below w.heap.size w w':=⟨hg.os,hg.tape,hg.output,hg.size,fun k hk=>hg.block k hk (by rw [hr];simp)⟩
theorem conv_reads {w : World} {B n : Nat} {A : Option Addr} {l : List UInt8} (h : Reads w B 1 A n (Lib.byteCells l)) (c : Nat) (src dst : TypeId) (hs : Tryz.prog.underlying src = some (.slice 5)) (hd : Tryz.prog.underlying dst = some .string) :
  (convert src dst (.slice A n c)).run Tryz.prog w = .ok (.string ⟨l.toArray⟩) w:=by
 have hn : l.length = n:=by have:=h.1;rw [Lib.byteCells_length] at this;omega
 rcases A with _ | ad
 ·have h0 : n = 0:=by
   rcases Nat.eq_zero_or_pos n with h0 | h0
   ·exact h0
   ·obtain ⟨ad,h,_⟩:=h.2 h0
    cases h
  subst h0
  have hl : l = []:=List.eq_nil_of_length_eq_zero hn
  subst hl
  exact Lib.run_convert_nil_bytes w src dst 5 c hs Tryz.underlying5 hd
 ·subst hn
  refine run_convert_bytes_back w src dst 5 ad c l hs Tryz.underlying5 hd fun j hj=>?_
  obtain ⟨ad',e,_,hc⟩:=h.2 (by omega)
  cases e
  refine hc j _ ?_
  show (l.map fun b=>Value.int .u8 (b.toNat : Int))[j]? = _
  rw [List.getElem?_map,List.getElem?_eq_getElem hj,Option.map_some]
end
section
open Go Go.RowKit
theorem iown_empty (w : World) (base : Nat) (hb : base <= w.heap.size) : (w.alloc (.cells #[] 3)).ownsRow base 3 1 (.slice (some ⟨w.heap.size,0,none⟩) 0 0) 0 []:=by
 refine ⟨rfl,.inr ⟨w.heap.size,0,#[],rfl,hb,heap_alloc_new w _,?_⟩⟩
 simp
theorem ieql_some (ad : Addr) (m c : Nat) (w : World) : (binOp .eql 27 (.slice (some ad) m c) (.slice none 0 0)).run Tryz.prog w = .ok (.bool false) w:=by
 have h:=Lib.run_eql_slice_nil (P:=Tryz.prog) w 27 3 (some ad) m c 0 0 Tryz.underlying27
 exact h
theorem vec_of_own {w : World} {base : Nat} {v : Value} {l : List Int} (h : w.ownsRow base 3 1 v l.length (ints l)) (hl : 1 <= l.length) {G : Nat -> Prop} (hG : ∀ g,base <= g -> g < w.heap.size -> G g) : VecIn w G v l:=by
 obtain ⟨g,cap,hv,hb,hlt⟩:=h.form (by omega)
 subst hv
 exact ⟨⟨g,0,none⟩,cap,rfl,hG g hb hlt,hlt,h.cells (g:=g) rfl⟩
theorem icloned (ad : Addr) (c B : Nat) (l : List Int) (w : World) (hR : Reads w B 1 (some ad) l.length (ints l)) (hB : B <= w.heap.size) (hm : l.length <= 1000000) :
  Calls Tryz.prog 84 #[.slice (some ad) l.length c] w fun e w'=>∃ v',e = .returned v' /\ w'.ownsRow w.heap.size 3 1 v' l.length (ints l) /\ Below w.heap.size w w':=by
 have ho:=iown_empty w w.heap.size (Nat.le_refl _)
 have hb0 : Below w.heap.size w (w.alloc (.cells #[] 3)):=(Below.refl _ w).alloc (Nat.le_refl _) _
 obtain ⟨i0,hi,hz0,hz1,hz2⟩:=info_parts int_row
 have HR:=Lib.hid (hR.alloc hB (.cells #[] 3))
 have HO:=Lib.hid ho
 have HB:=Lib.hid hb0
 have hs1 : w.heap.size <= (w.alloc (.cells #[] 3)).heap.size:=by simp
 clear hR ho hb0
 have he:=ieql_some ad l.length c
 generalize hn : l.length = n at *
 clear hn
 go_enter Tryz.func84,Tryz.ntmps84
 go_wp2_with (at_builtin;refine wpList_append_any _ rfl (.tmp 5) (.tmp 6) 27 rfl w.heap.size 3 i0 (.int .i64 0) 1 8 Tryz.underlying27 hi hz0 hz1 hz2 rfl (by decide) _ 0 [] rfl HO.out B (some ad) n c (ints l) rfl HR.out (ints_one l) (by unfold maxLen;omega) (by omega) hs1 ?_;intro v1 w1 hown1 hg1 hv1)
 go_ret
 rw [Nat.zero_add,List.nil_append] at hown1
 exact ⟨_,rfl,hown1,HB.out.trans (below_own HO.out hg1 hs1)⟩
end
section
open Go Go.RowKit Go.Maps
section
variable {w w' : World} {F : Nat -> Prop} {t bm fm dim : Nat} {rv : Value} {N : NT} {B U B' U' : List Ent}
theorem TreeW.remap (h : TreeW w F t bm fm dim rv N B U) (hk : ∀ b,F b -> b ≠ bm -> b ≠ fm -> w'.heap[b]? = w.heap[b]?) (hs : w.heap.size <= w'.heap.size) (m1 : MapAt w' bm B') (m2 : MapAt w' fm U')
    (s1 : ∀ p ∈ B',p ∈ B) (s2 : ∀ p ∈ U',p ∈ U) (hl : B'.length + U'.length <= 512) : TreeW w' F t bm fm dim rv N B' U' :=
  have hs' : ∀ p ∈ B' ++ U',p ∈ B ++ U:=fun p hp=>List.mem_append.2 ((List.mem_append.1 hp).imp (s1 p) (s2 p))
  { h with
    box:=(hk t h.ft h.e1 h.e2).trans h.box
    mb:=m1
    mf:=m2
    ok:=fun p hp=>h.ok p (hs' p hp)
    vec:=fun p hp=>(h.vec p (hs' p hp)).keep (fun b hb _=>hk b hb.1 hb.2.2.1 hb.2.2.2) hs
    apart:=fun p hp q hq=>h.apart p (s1 p hp) q (s2 q hq)
    node:=h.node.keep (fun b hb _=>hk b hb.1 hb.2.2.1 hb.2.2.2) hs
    sub:=fun p hp=>h.sub p (s1 p hp)
    len:=hl
    lt:=fun b hb=>by have:=h.lt b hb;omega }
theorem TreeW.unroot (h : TreeW w F t bm fm dim rv N B U) (hB : B = []) : TreeW (w.setCell ⟨t,2,none⟩ (.pointer none)) F t bm fm dim (.pointer none) .leaf B U:=by
  subst hB
  exact { h with
    box:=h.row.set 2 (.pointer none)
    mb:=h.mb.keep (heap_set_ne w _ _ h.e1.symm)
    mf:=h.mf.keep (heap_set_ne w _ _ h.e2.symm)
    vec:=fun p hp=>(h.vec p hp).keep (fun b hb _=>heap_set_ne w _ _ hb.2.1) (by simp)
    node:=rfl
    good:=trivial
    nnd:=List.Pairwise.nil
    sub:=fun p hp=>by simp at hp
    lt:=fun b hb=>by have:=h.lt b hb;simpa using this }
theorem noId_le (x : Int) (E : List Ent) : (noId x E).length <= E.length:=List.length_filter_le ..
theorem turn_grown {row : Nat} (hg : w.grownBy w' (some row)) (hF : F row) : Turn F w F w':=⟨hg.os,hg.tape,hg.output,hg.size,fun b hb hf=>hg.block b hb (fun e=>by injection e with e;subst e;exact hf hF),fun _ h=>.inl h⟩
theorem TreeW.delB (h : TreeW w F t bm fm dim rv N B U) {x : Int} (m : MapAt w' bm (noId x B)) (hg : w.grownBy w' (some bm)) : TreeW w' F t bm fm dim rv N (noId x B) U :=
  h.remap (fun b hb h1 _=>hg.block b (h.lt b hb) (by simpa using h1)) hg.size m (h.mf.keep (hg.block fm (h.lt fm h.ff) (by simpa using h.e3.symm))) (fun p hp=>(noId_mem.1 hp).1) (fun _ hp=>hp) (by have:=h.len;have:=noId_le x B;omega)
theorem TreeW.delU (h : TreeW w F t bm fm dim rv N B U) {x : Int} (m : MapAt w' fm (noId x U)) (hg : w.grownBy w' (some fm)) : TreeW w' F t bm fm dim rv N B (noId x U) :=
  h.remap (fun b hb _ h2=>hg.block b (h.lt b hb) (by simpa using h2)) hg.size (h.mb.keep (hg.block bm (h.lt bm h.fb) (by simpa using h.e3))) m (fun _ hp=>hp) (fun p hp=>(noId_mem.1 hp).1) (by have:=h.len;have:=noId_le x U;omega)
end
section
variable {ops : Array Oper} {rest : List Oper} {o : Oper} {a : Act} {Q : Exit -> Act -> World -> Prop} {W : World}
theorem wpList_del (hgd : o.guard = none) (m k : Operand) (hop : o.op = Op.call { callee:=Callee.builtin Builtin.delete,args:=#[m,k],argTypes:=#[169,3] }) (b : Nat) (E : List Ent) (x : Int)
    (hm : a.eval m = .map (some b)) (h : MapAt W b E) (hx : a.eval k = .int .i64 x) (hw : (Lit.int .i64 x).wf = true)
    (hK : ∀ w',MapAt w' b (noId x E) -> W.grownBy w' (some b) -> wpList Tryz.prog ops Q rest (a.put o.dst (.tuple #[])) w') : wpList Tryz.prog ops Q (o :: rest) a W:=by
  obtain ⟨D,ho,hD⟩:=h
  exact wpList_delete_own W hgd m k 169 3 hop 27 law3 Tryz.underlying169 hR b E.length D hm ho _ _ hx (key_of hw) (fun w' h1 h2=>hK w' (MapAt.of h1 (hD.del x)) h2.grown)
theorem wpList_ins (hgd : o.guard = none) (m k v : Operand) (hop : o.op = Op.mapUpdate 169 m k v) (b : Nat) (E : List Ent) (x : Int) (val : Value) (l : List Int)
    (hm : a.eval m = .map (some b)) (h : MapAt W b E) (hl : E.length <= 1000) (hx : a.eval k = .int .i64 x) (hv : a.eval v = val) (hw : (Lit.int .i64 x).wf = true) (hn : isId x E = false)
    (hK : ∀ w',MapAt w' b ((x,val,l) :: E) -> W.grownBy w' (some b) -> wpList Tryz.prog ops Q rest (a.put o.dst undef) w') : wpList Tryz.prog ops Q (o :: rest) a W:=by
  obtain ⟨D,ho,hD⟩:=h
  exact wpList_mapUpdate_in W hgd m k v 169 hop 3 27 law3 Tryz.underlying169 hR b E.length D hm ho (by unfold maxLen;omega) _ _ _ hx hv (key_of hw) (.held val) [] rfl (fun w' h1 h2=>hK w' (MapAt.of h1 (hD.put x val l hn)) h2.grown)
end
section
variable {w w' : World} {F : Nat -> Prop} {t bm fm dim : Nat} {rv : Value} {N : NT} {B U : List Ent}
def DropPost (w : World) (F : Nat -> Prop) (t bm fm dim : Nat) (B U : List Ent) (x : Int) (e : Ending) (w' : World) : Prop :=
  e = .returned (.bool (isId x (B ++ U))) /\ ∃ rv' N',TreeW w' F t bm fm dim rv' N' (noId x B) (noId x U) /\ Turn F w F w'
theorem vdrop_any (h : TreeW w F t bm fm dim rv N B U) {x : Int} (hx : (Lit.int .i64 x).wf = true) : Calls Tryz.prog 207 #[.pointer (some ⟨t,0,none⟩),.int .i64 x] w (DropPost w F t bm fm dim B U x):=by
  have hv:=vvec_any h hx
  go_enter Tryz.func207,Tryz.ntmps207
  go_wp2_with fail
  refine hv.mono ?_
  rintro e w1 ⟨v,r,hA,rfl,q,rfl⟩
  have H1:=Lib.hid (h.drewN q)
  have HT:=Lib.hid (Turn.drewN F w q)
  cases hA with
  | no h1 h2 =>
    have HF:=Lib.hid (show DropPost w F t bm fm dim B U x (.returned (.bool false)) (w.drewN q) from ⟨by
      have : isId x (B ++ U) = false:=by unfold isId at *;rw [List.any_append,h1,h2];rfl
      rw [this],rv,N,by rw [noId_self h1,noId_self h2];exact h.drewN q,Turn.drewN F w q⟩)
    clear h hv h1 h2
    go_wp2
    go_ret
    exact HF.out
  | yes v l hm =>
    have HL:=Lib.hid (show B.length <= 512 by have:=h.len;omega)
    have HI:=Lib.hid (show isId x (B ++ U) = true from (isId_iff _ _).2 ⟨_,hm,rfl⟩)
    have c3:=(h.drewN q).c3
    have hl:=(h.drewN q).tlt
    have hm1:=(h.drewN q).mb
    generalize w.drewN q = w1 at *
    clear h hv hm
    have arm1 : ∀ (w2 : World),MapAt w2 bm (noId x B) -> w1.grownBy w2 (some bm) -> Hid (TreeW w2 F t bm fm dim rv N (noId x B) U /\ Turn F w F w2):=fun _ m2 g2=>Lib.hid ⟨H1.out.delB m2 g2,HT.out.trans (turn_grown g2 H1.out.fb)⟩
    have arm2 : ∀ (w2 w3 : World),Hid (TreeW w2 F t bm fm dim rv N (noId x B) U /\ Turn F w F w2) -> MapAt w3 fm (noId x U) -> w2.grownBy w3 (some fm) -> Hid (TreeW w3 F t bm fm dim rv N (noId x B) (noId x U) /\ Turn F w F w3):=fun _ _ H m3 g3=>Lib.hid ⟨H.out.1.delU m3 g3,H.out.2.trans (turn_grown g3 H.out.1.ff)⟩
    have ARM1:=Lib.hid arm1
    have ARM2:=Lib.hid arm2
    clear arm1 arm2 H1 HT
    by_cases h0 : (noId x B).length = 0
    · have hB:=Lib.hid (List.eq_nil_of_length_eq_zero h0)
      have L0:=Lib.hid (show ((noId x B).length : Int) = 0 by omega)
      clear h0
      go_wp2_with (first
        | (at_delete
           refine wpList_del rfl _ _ rfl bm B x rfl hm1 rfl hx ?_
           intro w2 m2 g2
           have H2:=ARM1.out _ m2 g2
           have c4:=H2.out.1.c4
           have hl2:=H2.out.1.tlt
           have hm2:=H2.out.1.mf
           clear hm1 c3 hl m2 g2)
        | (at_delete
           refine wpList_del rfl _ _ rfl fm U x rfl hm2 rfl hx ?_
           intro w3 m3 g3
           have H3:=ARM2.out _ _ H2 m3 g3
           have c3:=H3.out.1.c3
           have c2:=H3.out.1.c2
           have z2:=H3.out.1.z2
           have hl3:=H3.out.1.tlt
           have l1:=fun ty=>H3.out.1.mb.len_run ty
           rw [L0.out] at l1
           clear hm2 c4 hl2 m3 g3)
        | go_in)
      go_ret
      exact ⟨by rw [HI.out];rfl,_,_,H3.out.1.unroot hB.out,H3.out.2.trans (Turn.set F w3 (a:=⟨t,2,none⟩) H3.out.1.ft (.pointer none))⟩
    · have hBn : ((noId x B).length : Int) ≠ 0:=by omega
      have hlt : ((noId x B).length : Int) <= 512:=by have:=noId_le x B;have:=h0;have:=HL.out;omega
      generalize hn : ((noId x B).length : Int) = n at *
      have L0:=Lib.hid hn
      have h01 : (n == 0) = false:=by rw [beq_eq_false_iff_ne];exact hBn
      clear h0 hn
      go_wp2_with (first
        | (at_delete
           refine wpList_del rfl _ _ rfl bm B x rfl hm1 rfl hx ?_
           intro w2 m2 g2
           have H2:=ARM1.out _ m2 g2
           have c4:=H2.out.1.c4
           have hl2:=H2.out.1.tlt
           have hm2:=H2.out.1.mf
           clear hm1 c3 hl m2 g2)
        | (at_delete
           refine wpList_del rfl _ _ rfl fm U x rfl hm2 rfl hx ?_
           intro w3 m3 g3
           have H3:=ARM2.out _ _ H2 m3 g3
           have c3:=H3.out.1.c3
           have hl3:=H3.out.1.tlt
           have l1:=fun ty=>H3.out.1.mb.len_run ty
           rw [L0.out] at l1
           clear hm2 c4 hl2 m3 g3)
        | go_in)
      go_ret
      exact ⟨by rw [HI.out];rfl,_,_,H3.out.1,H3.out.2⟩
end
end
section
open Go Go.RowKit
def OwnL (w : World) (base : Nat) (v : Value) (rs : List (List UInt8)) : Prop:=w.ownsRow base 9 1 v rs.length (strL rs)
theorem copies_made (n : Nat) : madeCells #[.string ⟨#[]⟩] n = (strL (List.replicate n [])).toArray:=by
 have h:=toList_madeCells_one (.string ⟨#[]⟩) n
 unfold strL
 rw [List.map_replicate,<- h,Array.toArray_toList]
theorem strL_set (rs : List (List UInt8)) (k : Nat) (r : List UInt8) : (strL rs).set k (.string ⟨r.toArray⟩) = strL (rs.set k r):=by
 unfold strL
 rw [List.map_set]
theorem strL_get {rs : List (List UInt8)} {j : Nat} (h : j < rs.length) : (strL rs)[j]? = some (.string ⟨(rs.getD j []).toArray⟩):=by
 unfold strL
 rw [List.getElem?_map,List.getD_eq_getElem?_getD,List.getElem?_eq_getElem h]
 rfl
def half_ (rs : List (List UInt8)) (k : Nat) : List (List UInt8):=rs.take k ++ List.replicate (rs.length - k) []
theorem half_len (rs : List (List UInt8)) (k : Nat) (hk : k <= rs.length) : (half_ rs k).length = rs.length:=by unfold half_;simp;omega
theorem half_next (rs : List (List UInt8)) (k : Nat) (hk : k < rs.length) : (half_ rs k).set k (rs.getD k []) = half_ rs (k + 1):=by
 unfold half_
 rw [List.set_append_right _ _ (by simp;omega),List.take_succ_eq_append_getElem hk,List.getD_eq_getElem?_getD,List.getElem?_eq_getElem hk,List.append_assoc]
 congr 1
 rw [show k - (rs.take k).length = 0 by simp;omega,show rs.length - k = (rs.length - (k + 1)) + 1 by omega,List.replicate_succ]
 rfl
theorem row_own {w : World} {g n : Nat} {rs : List (List UInt8)} {base : Nat} (h : Row w g 9 (strL rs)) (hn : n = rs.length) (hb : base <= g) (hm : n <= maxLen) : OwnL w base (.slice (some ⟨g,0,none⟩) n n) rs:=by
 subst hn
 exact ⟨by rw [strL_len,Nat.mul_one],.inr ⟨g,rs.length,_,rfl,hb,h,Nat.le_refl _,hm,by simp [strL_len],by simp [strL_len];exact List.take_of_length_le (by rw [strL_len];exact Nat.le_refl _)⟩⟩
theorem copies_any (rs : List (List UInt8)) (A : Option Addr) (n c : Nat) (w : World) (hR : Reads w w.heap.size 1 A n (strL rs)) (hn : n <= 1000000) (hr : ∀ r ∈ rs,r.length <= 300000) :
  Calls Tryz.prog 156 #[.slice A n c] w fun e w'=>∃ v,e = .returned v /\ OwnL w' w.heap.size v rs /\ Below w.heap.size w w':=by
 have hmk:=run_make_row' (P:=Tryz.prog) 108 9 (.string ⟨#[]⟩) 16 Tryz.underlying108 str_row rfl .i64 .i64 n (by omega) (by omega)
 rw [copies_made] at hmk
 have hlen:=reads_len hR
 have HL:=Lib.hid hlen
 have H:=Lib.hid (And.intro hR hr)
 have hnw : Row (w.alloc (.cells (strL (half_ rs 0)).toArray 9)) w.heap.size 9 (strL (half_ rs 0)):=Row.new w 9 _
 have hb0 : Below w.heap.size w (w.alloc (.cells (strL (half_ rs 0)).toArray 9)):=(Below.refl _ w).alloc (Nat.le_refl _) _
 have e0 : List.replicate n [] = half_ rs 0:=by unfold half_;rw [hlen];simp
 rw [e0] at hmk
 have H0:=Lib.hid (And.intro hnw hb0)
 clear hR hr hlen hnw hb0 e0
 go_enter Tryz.func156,Tryz.ntmps156
 go_wp2_with fail
 generalize w.alloc (.cells (strL (half_ rs 0)).toArray 9) = w0 at *
 go_loopw [11] (fun i wr=>∃ (k : Nat),i = .int .i64 (k : Int) /\ k <= n /\ Row wr w.heap.size 9 (strL (half_ rs k)) /\ Below w.heap.size w wr) (fun i _=>n - (intOf i).toNat)
 case atStart=>exact ⟨0,rfl,Nat.zero_le _,H0.out.1,H0.out.2⟩
 case round =>
  obtain ⟨k,rfl,hk,hW,hb⟩:=hrel
  by_cases hlt : k < n
  ·have hltz : (k : Int) < (n : Int):=by omega
   have hkl : k < rs.length:=by have:=HL.out;omega
   obtain ⟨ad,rfl,hbk,hcell⟩:=reads_str (H.out.1.below hb) hlt
   have hbk2 : (ad.add k).block < wr.heap.size:=by rw [block_of_add];have:=hb.size;omega
   have hmem : rs.getD k [] ∈ rs:=by rw [List.getD_eq_getElem?_getD,List.getElem?_eq_getElem hkl];exact List.getElem_mem _
   have hcl:=clone_any ⟨(rs.getD k []).toArray⟩ (by have:=H.out.2 _ hmem;show (rs.getD k []).length <= 1000000;omega) wr
   have hcw:=strL_get (rs:=half_ rs k) (j:=k) (by rw [half_len _ _ (by omega)];exact hkl)
   have hnx : ∀ W,Row W w.heap.size 9 (strL (half_ rs k)) -> Row (W.setCell ⟨w.heap.size,k,none⟩ (.string ⟨(rs.getD k []).toArray⟩)) w.heap.size 9 (strL (half_ rs (k + 1))):=fun W h=>by
    have:=h.set k (.string ⟨(rs.getD k []).toArray⟩)
    rw [strL_set,half_next rs k hkl] at this
    exact this
   have HN:=Lib.hid hnx
   have HC:=Lib.hid hcl
   clear hmem hcl hnx hkl
   generalize (⟨(rs.getD k []).toArray⟩ : ByteArray) = s at *
   generalize ((half_ rs k).getD k []).toArray = z at *
   have HW:=Lib.hid (And.intro hW (And.intro hb hcw))
   clear hW hb hcw
   go_wp2_with (go_at_call 138;refine HC.out.mono ?_;rintro e w1 ⟨rfl,hb1⟩;have hW1:=HW.out.1.keep (hb1.block _ HW.out.1.lt);have hc1:=hW1.cell HW.out.2.2;have hz1:=hW1.frozen k;have hl1:=hW1.lt)
   have hb2:=below_setCell (HW.out.2.1.trans (hb1.mono (B':=w.heap.size) HW.out.2.1.size)) (p:=⟨w.heap.size,k,none⟩) (Nat.le_refl _) (.string s)
   have hW2:=HN.out _ hW1
   go_roundw
   case rel=>exact ⟨k + 1,by go_num,by omega,hW2,hb2⟩
   case measure=>simp [intOf];omega
  ·obtain rfl : k = n:=by omega
   have hnl : ¬ (k : Int) < (k : Int):=by omega
   have hfull : half_ rs k = rs:=by unfold half_;have:=HL.out;rw [List.take_of_length_le (by omega),show rs.length - k = 0 by omega];simp
   rw [hfull] at hW
   have HW:=Lib.hid (And.intro hW hb)
   clear hW hb hfull
   go_wp2_with fail
   go_ret
   exact ⟨_,rfl,row_own HW.out.1 HL.out (Nat.le_refl _) (by unfold maxLen;omega),HW.out.2⟩
end
end Go.Proofs.YtegjjhjgfkcbhaaGreatDoor
