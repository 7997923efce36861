/- Math Sum Kit Hex. Conditions: as each part says. -/
import Derived.LoopTactic
import Derived.Lib.Hide
import Derived.Test.YtegjjhjgfkcbhaaGreatDoorChecked
import Derived.WalkKit
import Derived.WalkLawsBesides
import Derived.WalkSpells
import Derived.RegionTactic
import Derived.Below
import Derived.Laws.OwnMore
import Derived.Deep.AppendLies
import Derived.Deep.Draws
import Derived.OwnWalk
import Derived.Lib.OthersKept
import Derived.Maps.AppendAt
import Derived.BigQuiet
import Derived.Deep.QuietTactic
import Derived.Lib.LaidTab
import Derived.Laws.IdiomStrings
import Derived.Laws.BitsAllLaws
import Derived.Laws.MakeOwn
set_option linter.unusedVariables false
set_option linter.unusedSimpArgs false
set_option maxRecDepth 100000
set_option maxHeartbeats 16000000
namespace Go.Proofs.YtegjjhjgfkcbhaaGreatDoor
section
open Go Go.RowKit
def D (x : BitVec 24) : BitVec 24:=(x <<< 1) ^^^ (if x.msb then 0x864cfb#24 else 0#24)
theorem xlc (a b c : BitVec 24) : a ^^^ (b ^^^ c) = b ^^^ (a ^^^ c):=by rw [<- BitVec.xor_assoc,BitVec.xor_comm a b,BitVec.xor_assoc]
theorem D_xor (x y : BitVec 24) : D (x ^^^ y) = D x ^^^ D y:=by
 unfold D
 rw [BitVec.shiftLeft_xor_distrib,BitVec.msb_xor]
 cases x.msb <;> cases y.msb <;> simp [BitVec.xor_assoc,BitVec.xor_comm,xlc]
def Dn : Nat -> BitVec 24 -> BitVec 24
 | 0,x=>x
 | k + 1,x=>Dn k (D x)
theorem Dn_xor (k : Nat) : ∀ x y,Dn k (x ^^^ y) = Dn k x ^^^ Dn k y:=by
 induction k with
 | zero=>exact fun _ _=>rfl
 | succ k ih=>intro x y;rw [Dn,D_xor,ih];rfl
theorem Dn_add (a : Nat) : ∀ (b : Nat) x,Dn a (Dn b x) = Dn (b + a) x:=by
 intro b
 induction b with
 | zero=>intro x;simp [Dn]
 | succ b ih=>intro x;rw [show b + 1 + a = (b + a) + 1 by omega,Dn,Dn,ih]
theorem D_small {n : Nat} (h : 2 * n < 2 ^ 24) : D (BitVec.ofNat 24 n) = BitVec.ofNat 24 (2 * n):=by
 have hm : (BitVec.ofNat 24 n).msb = false:=by
  rw [BitVec.msb_eq_decide]
  simp
  omega
 unfold D
 rw [hm]
 apply BitVec.eq_of_toNat_eq
 simp [BitVec.toNat_shiftLeft,Nat.shiftLeft_eq]
 omega
theorem Dn_small (k : Nat) : ∀ {n : Nat},2 ^ k * n < 2 ^ 24 -> Dn k (BitVec.ofNat 24 n) = BitVec.ofNat 24 (2 ^ k * n):=by
 induction k with
 | zero=>intro n _;simp [Dn]
 | succ k ih =>
  intro n h
  rw [Nat.pow_succ] at h ⊢
  have hk : 0 < 2 ^ k:=Nat.pow_pos (by omega)
  have h1 : 2 * n <= 2 ^ k * (2 * n):=Nat.le_mul_of_pos_left _ hk
  have h2 : 2 ^ k * (2 * n) = 2 ^ k * 2 * n:=by rw [Nat.mul_assoc]
  rw [Dn,D_small (by omega),ih (by omega),h2]
def step (c : BitVec 24) (b : UInt8) : BitVec 24:=Dn 8 (c ^^^ BitVec.ofNat 24 (b.toNat * 65536))
def crcL (c : BitVec 24) (l : List UInt8) : BitVec 24:=l.foldl step c
def crcS (s : ByteArray) : BitVec 24:=crcL 0xb704ce#24 s.data.toList
theorem crcL_append (c : BitVec 24) (l m : List UInt8) : crcL c (l ++ m) = crcL (crcL c l) m:=by simp [crcL]
theorem nat_xor_add (i a b : Nat) (hb : b < 2 ^ i) : 2 ^ i * a ^^^ b = 2 ^ i * a + b:=by
 rw [Nat.two_pow_add_eq_or_of_lt hb]
 apply Nat.eq_of_testBit_eq
 intro j
 rw [Nat.testBit_xor,Nat.testBit_or,Nat.testBit_two_pow_mul]
 by_cases hj : i <= j
 ·have : b.testBit j = false:=Nat.testBit_lt_two_pow (Nat.lt_of_lt_of_le hb (Nat.pow_le_pow_right (by omega) hj))
  rw [this]
  simp
 ·simp [hj]
def tab : List Nat:=[0x000000,0x864cfb,0x8ad50d,0x0c99f6,0x93e6e1,0x15aa1a,0x1933ec,0x9f7f17,0xa18139,0x27cdc2,0x2b5434,0xad18cf,0x3267d8,0xb42b23,0xb8b2d5,0x3efe2e]
theorem tab_ok : ∀ h : Fin 16,Dn 4 (BitVec.ofNat 24 (h.val * 1048576)) = BitVec.ofNat 24 (tab.getD h.val 0):=by decide +kernel
theorem tab_lt : ∀ h : Fin 16,tab.getD h.val 0 < 16777216:=by decide +kernel
theorem four_on (x : BitVec 24) : (Dn 4 x).toNat = (x.toNat * 16) % 16777216 ^^^ tab.getD (x.toNat / 1048576) 0:=by
 have hx:=x.isLt
 have hh : x.toNat / 1048576 < 16:=by omega
 have e : x = BitVec.ofNat 24 (x.toNat / 1048576 * 1048576) ^^^ BitVec.ofNat 24 (x.toNat % 1048576):=by
  apply BitVec.eq_of_toNat_eq
  simp only [BitVec.toNat_xor,BitVec.toNat_ofNat]
  rw [Nat.mod_eq_of_lt (show x.toNat / 1048576 * 1048576 < 2 ^ 24 by omega),Nat.mod_eq_of_lt (show x.toNat % 1048576 < 2 ^ 24 by omega)]
  have:=nat_xor_add 20 (x.toNat / 1048576) (x.toNat % 1048576) (by omega)
  rw [show x.toNat / 1048576 * 1048576 = 2 ^ 20 * (x.toNat / 1048576) by omega,this]
  omega
 have h1:=tab_ok ⟨_,hh⟩
 have h2:=tab_lt ⟨_,hh⟩
 simp only at h1 h2
 conv=>lhs;rw [e]
 rw [Dn_xor,h1,Dn_small 4 (by omega),BitVec.toNat_xor,BitVec.toNat_ofNat,BitVec.toNat_ofNat,Nat.mod_eq_of_lt (show tab.getD (x.toNat / 1048576) 0 < 2 ^ 24 by omega),Nat.xor_comm]
 congr 1
 omega
end
section
open Go Go.RowKit
theorem ofInt_nat64 (a : Nat) (ha : a < 9223372036854775808) : (BitVec.ofInt 64 (a : Int)).toNat = a:=by
 rw [BitVec.toNat_ofInt]
 omega
theorem i64_xor_nat (a b : Nat) (ha : a < 9223372036854775808) (hb : b < 9223372036854775808) : bits .xor .i64 (a : Int) (b : Int) = ((a ^^^ b : Nat) : Int):=by
 show IntKind.i64.wrap ((BitVec.ofInt 64 (a : Int) ^^^ BitVec.ofInt 64 (b : Int)).toNat : Nat) = _
 rw [BitVec.toNat_xor,ofInt_nat64 a ha,ofInt_nat64 b hb,IntKind.wrap_i64]
 have:=Nat.xor_lt_two_pow (n:=63) ha hb
 omega
theorem i64_and24 (n : Int) : bits .and .i64 n 16777215 = n % 16777216:=by
 have hm : (BitVec.ofInt 64 16777215).toNat = 2 ^ 24 - 1:=by decide
 have key : (BitVec.ofInt 64 n &&& BitVec.ofInt 64 16777215).toNat = (n % ((2 ^ 64 : Nat) : Int)).toNat % 2 ^ 24:=by
  rw [BitVec.toNat_and,BitVec.toNat_ofInt,hm,Nat.and_two_pow_sub_one_eq_mod]
 show IntKind.i64.wrap ((BitVec.ofInt 64 n &&& BitVec.ofInt 64 16777215).toNat : Nat) = n % 16777216
 rw [key,IntKind.wrap_i64]
 omega
def TabW (w : World) : Prop:=∀ i : Nat,i < 16 -> w.cell? ⟨0,i,none⟩ = some (.int .i64 ((tab.getD i 0 : Nat) : Int))
def tabI : List Int:=[0,8801531,9098509,825846,9692897,1419802,1651692,10452759,10584377,2608578,2839604,11344079,3303384,11807523,12104405,4128302]
theorem tabI_ok : ∀ i : Fin 16,tabI.getD i.val 0 = ((tab.getD i.val 0 : Nat) : Int):=by decide +kernel
theorem tabW_of {W : World} (h : Lib.TabIs Tryz.prog W "plover/crc.left" .i64 tabI) : TabW W:=fun i hi=>by
 have:=h.cell (g:=0) (by kernel_rfl) i (by simpa [tabI] using hi)
 rw [this,tabI_ok ⟨i,hi⟩]
theorem TabW.size {w : World} (h : TabW w) : 0 < w.heap.size:=by
 have:=h 0 (by omega)
 rcases Nat.eq_zero_or_pos w.heap.size with h0 | h0
 ·simp [World.cell?,Array.getElem?_eq_none (Nat.le_of_eq h0)] at this
 ·exact h0
theorem TabW.below {w w' : World} {B : Nat} (h : TabW w) (hb : Below B w w') (hB : 0 < B) : TabW w':=fun i hi=>(hb.cell hB).trans (h i hi)
theorem fourOn_any (x : BitVec 24) (w : World) (hT : TabW w) : Calls Tryz.prog 186 #[.int .i64 (x.toNat : Int)] w fun e w'=>e = .returned (.int .i64 ((Dn 4 x).toNat : Int)) /\ w = w':=by
 have hx:=x.isLt
 have h4:=four_on x
 have hi : x.toNat / 1048576 < 16:=by omega
 have hc:=hT _ hi
 have ht:=tab_lt ⟨_,hi⟩
 have hxor:=i64_xor_nat (x.toNat * 16 % 16777216) (tab.getD (x.toNat / 1048576) 0) (by omega) (by simp only at ht;omega)
 rw [<- h4,Int.natCast_emod,Int.natCast_mul] at hxor
 have hand:=i64_and24 ((x.toNat : Int) * 16)
 simp only at ht
 generalize hN : x.toNat = N at *
 generalize hR : (Dn 4 x).toNat = R at *
 generalize tab.getD (N / 1048576) 0 = T at *
 have hxor2 : bits .xor .i64 ((N : Int) * 16 % 16777216) (T : Int) = (R : Int):=hxor
 clear hT h4 hxor
 go_enter Tryz.func186,Tryz.ntmps186
 go_wp2_with fail
 go_ret
 exact ⟨rfl,rfl⟩
theorem xor_byte (c : BitVec 24) (b : UInt8) : bits .xor .i64 (c.toNat : Int) ((b.toNat : Int) * 65536) = ((c ^^^ BitVec.ofNat 24 (b.toNat * 65536)).toNat : Int):=by
 have hb:=b.toNat_lt
 have hc:=c.isLt
 have:=i64_xor_nat c.toNat (b.toNat * 65536) (by omega) (by omega)
 rw [Int.natCast_mul] at this
 have e : (c ^^^ BitVec.ofNat 24 (b.toNat * 65536)).toNat = c.toNat ^^^ b.toNat * 65536:=by
  rw [BitVec.toNat_xor,BitVec.toNat_ofNat,Nat.mod_eq_of_lt (by omega)]
 rw [e]
 exact this
theorem step_four (c : BitVec 24) (b : UInt8) : Dn 4 (Dn 4 (c ^^^ BitVec.ofNat 24 (b.toNat * 65536))) = step c b:=by rw [Dn_add];rfl
theorem crcL_take (c : BitVec 24) (l : List UInt8) (k : Nat) (hk : k < l.length) : crcL c (l.take (k + 1)) = step (crcL c (l.take k)) l[k]:=by
 rw [List.take_succ_eq_append_getElem hk,crcL_append]
 rfl
theorem sum_any (s : ByteArray) (w : World) (hs : s.size <= 300000) (hT : TabW w) : Calls Tryz.prog 163 #[.string s] w fun e w'=>e = .returned (.int .i64 ((crcS s).toNat : Int)) /\ w = w':=by
 have HT:=Lib.hid hT
 clear hT
 go_enter Tryz.func163,Tryz.ntmps163
 go_wp2_with fail
 go_loopw [3,7] (fun c i wr=>∃ k : Nat,k <= s.size /\ c = .int .i64 ((crcL 0xb704ce#24 (s.data.toList.take k)).toNat : Int) /\ i = .int .i64 (k : Int) /\ w = wr) (fun _ i _=>s.size - (intOf i).toNat)
 case atStart=>exact ⟨0,Nat.zero_le _,rfl,rfl,rfl⟩
 case round =>
  obtain ⟨k,hk,rfl,rfl,rfl⟩:=hrel
  by_cases hlt : k < s.size
  ·have hltz : (k : Int) < (s.size : Int):=by omega
   have hnx:=Lib.hid (crcL_take 0xb704ce#24 s.data.toList k (by simpa using hlt))
   generalize hC : crcL 0xb704ce#24 (s.data.toList.take k) = C at *
   have hbt : (s[k]'hlt).toNat < 256:=UInt8.toNat_lt _
   have h1:=fourOn_any (C ^^^ BitVec.ofNat 24 ((s[k]'hlt).toNat * 65536)) w HT.out
   rw [<- xor_byte] at h1
   have h2:=fourOn_any (Dn 4 (C ^^^ BitVec.ofNat 24 ((s[k]'hlt).toNat * 65536))) w HT.out
   rw [step_four] at h2
   have H1:=Lib.hid h1
   have H2:=Lib.hid h2
   clear h1 h2 hC
   go_wp2_with fail
   refine H1.out.mono ?_
   rintro e w1 ⟨rfl,rfl⟩
   go_wp2_with fail
   refine H2.out.mono ?_
   rintro e w1 ⟨rfl,rfl⟩
   go_wp2_with fail
   go_roundw
   case rel=>exact ⟨k + 1,by omega,by rw [hnx.out];rfl,by go_num,by trivial⟩
   case measure=>simp [intOf];omega
  ·obtain rfl : k = s.size:=by omega
   have hnl : ¬ (s.size : Int) < (s.size : Int):=by omega
   have hall : crcL 0xb704ce#24 (s.data.toList.take s.size) = crcS s:=by
    rw [List.take_of_length_le (by simp)]
    rfl
   rw [hall]
   go_wp2_with fail
   go_ret
   exact ⟨rfl,rfl⟩
end
section
open Go Go.RowKit
def Gives (v : Value) (w : World) (e : Ending) (w' : World) : Prop:=e = .returned v /\ Below w.heap.size w w'
theorem block_of_add (a : Addr) (n : Nat) : (a.add n).block = a.block:=by unfold Addr.add;split <;> rfl
theorem add_of_add (a : Addr) (i j : Nat) : (a.add i).add j = a.add (i + j):=by
 unfold Addr.add
 by_cases hi : i = 0 <;> by_cases hj : j = 0 <;> simp [hi,hj,Nat.add_assoc]
theorem add_flat (b i j : Nat) : (⟨b,i,none⟩ : Addr).add j = ⟨b,i + j,none⟩:=by
 unfold Addr.add
 split
 ·simp_all
 ·rfl
theorem grown_then {a b c : World} {row : Option Nat} (h : a.grownBy b row) (k : b.grownBy c row) : a.grownBy c row :=
 ⟨k.os.trans h.os,k.tape.trans h.tape,k.output.trans h.output,Nat.le_trans h.size k.size,fun i hi hne=>(k.block i (Nat.lt_of_lt_of_le hi h.size) hne).trans (h.block i hi hne)⟩
theorem grown_below {a w : World} (h : Below a.heap.size a w) (row : Option Nat) : a.grownBy w row:=⟨h.os,h.tape,h.output,h.size,fun i hi _=>h.block i hi⟩
theorem own_shape {w : World} {base : Nat} {e : TypeId} {size : Nat} {v : Value} {n : Nat} {xs : List Value} (h : w.ownsRow base e size v n xs) : ∃ A c,v = .slice A n c /\ n <= c /\ c <= maxLen:=by
 rcases h.2 with ⟨rfl,rfl⟩ | ⟨g,cap,cur,rfl,_,_,h1,h2,_⟩
 ·exact ⟨_,_,rfl,Nat.le_refl _,by simp [maxLen]⟩
 ·exact ⟨_,_,rfl,h1,h2⟩
def RowB (w : World) (g : Nat) (l : List UInt8) : Prop:=∃ (C : Array Value) (T lo hi : Nat),w.heap[g]? = some (.cells C T (lo,hi)) /\ (l.length <= lo \/ hi = 0) /\ ∀ j (hj : j < l.length),C[j]? = some (.int .u8 (l[j].toNat : Int))
section
variable {w : World} {g : Nat} {l : List UInt8}
theorem RowB.lt (h : RowB w g l) : g < w.heap.size:=by
 obtain ⟨C,T,lo,hi,hh,_⟩:=h
 exact (Array.getElem?_eq_some_iff.1 hh).1
theorem RowB.cell (h : RowB w g l) {j : Nat} (hj : j < l.length) : w.cell? ⟨g,j,none⟩ = some (.int .u8 (l[j].toNat : Int)):=by
 obtain ⟨C,T,lo,hi,hh,_,hc⟩:=h
 simp only [World.cell?,hh]
 exact hc j hj
theorem RowB.frozen (h : RowB w g l) {j : Nat} (hj : j < l.length) : w.frozen? ⟨g,j,none⟩ = false:=by
 obtain ⟨C,T,lo,hi,hh,hlo,hc⟩:=h
 simp only [World.frozen?,hh]
 rcases hlo with hlo | rfl
 ·simp;omega
 ·simp
theorem RowB.set (h : RowB w g l) {j : Nat} (hj : j < l.length) (b : UInt8) : RowB (w.setCell ⟨g,j,none⟩ (.int .u8 (b.toNat : Int))) g (l.set j b):=by
 obtain ⟨C,T,lo,hi,hh,hlo,hc⟩:=h
 refine ⟨C.setIfInBounds j (.int .u8 (b.toNat : Int)),T,lo,hi,?_,by simpa using hlo,fun i hi'=>?_⟩
 ·simp only [World.setCell,Array.getElem?_modify,hh]
  simp
 ·have hi2 : i < l.length:=by simpa using hi'
  have hCj:=hc j hj
  have hjC : j < C.size:=(Array.getElem?_eq_some_iff.1 hCj).1
  rw [Array.getElem?_setIfInBounds]
  by_cases hji : j = i
  ·subst hji
   rw [if_pos rfl,if_pos hjC]
   simp
  ·rw [if_neg hji,hc i hi2]
   simp [List.getElem_set,hji]
theorem RowB.conv (h : RowB w g l) (cap : Nat) (src dst : TypeId) (hs : Tryz.prog.underlying src = some (.slice 5)) (hd : Tryz.prog.underlying dst = some .string) : (convert src dst (.slice (some ⟨g,0,none⟩) l.length cap)).run Tryz.prog w = .ok (.string ⟨l.toArray⟩) w :=
 run_convert_bytes_back w src dst 5 ⟨g,0,none⟩ cap l hs Tryz.underlying5 hd (fun j hj=>by
  rw [show (⟨g,0,none⟩ : Addr).add j = ⟨g,j,none⟩ by unfold Addr.add;split <;> simp_all]
  exact h.cell hj)
end
theorem RowB.new (w : World) (C : Array Value) (T lo hi : Nat) (l : List UInt8) (hlo : l.length <= lo \/ hi = 0) (hc : ∀ j (hj : j < l.length),C[j]? = some (.int .u8 (l[j].toNat : Int))) : RowB (w.alloc (.cells C T (lo,hi))) w.heap.size l :=
 ⟨C,T,lo,hi,by show (w.heap.push _)[w.heap.size]? = _;simp,hlo,hc⟩
theorem below_setCell {B : Nat} {a w : World} (h : Below B a w) {p : Addr} (hp : B <= p.block) (v : Value) : Below B a (w.setCell p v):=by
 refine ⟨h.os,h.tape,h.output,by simpa using h.size,fun b hb=>?_⟩
 rw [<- h.block b hb]
 simp only [World.setCell,Array.getElem?_modify]
 rw [if_neg (by omega)]
theorem below_drewN {B : Nat} {a w : World} (h : Below B a w) (n : Nat) : Below B a (w.drewN n):=⟨h.os,h.tape,h.output,h.size,h.block⟩
theorem news_cells (W : World) (cs : Array Value) (E : TypeId) : ∀ j u,cs.toList[j]? = some u -> (W.alloc (.cells cs E)).cell? ((⟨W.heap.size,0,none⟩ : Addr).add j) = some u:=by
 intro j u hj
 rw [add_flat,Nat.zero_add]
 have hb:=heap_alloc_new W (.cells cs E)
 simp only [World.cell?,hb]
 simpa using hj
theorem append_new {P : Program} {ops : Array Oper} {rest : List Oper} {o : Oper} {a : Act} {Q : Exit -> Act -> World -> Prop} {W : World} (hgd : o.guard = none) (s x : Operand) (t E E' : TypeId)
  (ho : o.op = .call { callee:=.builtin .append,args:=#[s,x],argTypes:=#[t,t] })
  (base : Nat) (i : TypeInfo) (z : Value) (size bytes : Nat) (ht : P.underlying t = some (.slice E)) (hi : P.info? E = some i) (hz : i.zero = some z)
  (hsize : i.size = size) (hby : i.bytes = bytes) (hzs : z.cells.size = size) (hsz : 0 < size) (hb100 : bytes <= 100)
  (v : Value) (n : Nat) (xs : List Value) (hs : a.eval s = v) (hown : W.ownsRow base E size v n xs) (hx : a.eval x = .slice (some ⟨W.heap.size,0,none⟩) 1 1)
  (cs : Array Value) (hcs : cs.size = size) (h1 : ∀ u ∈ cs.toList,u.oneCell' = true) (hn : n <= 1000000000) (hbase : base <= W.heap.size)
  (h : ∀ v' w',w'.ownsRow base E size v' (n + 1) (xs ++ cs.toList) -> W.grownBy w' v.ownBlock -> (v'.ownBlock = v.ownBlock \/ ∀ k,v'.ownBlock = some k -> W.heap.size <= k) -> wpList P ops Q rest (a.put o.dst v') w') :
  wpList P ops Q (o :: rest) a (W.alloc (.cells cs E')):=by
 have hmul : (n + 1) * bytes <= 140737488355328:=by
  have:=Nat.mul_le_mul (show n + 1 <= 1000000001 by omega) hb100
  omega
 obtain ⟨v',w',hrun,h2,h3,_,h5⟩:=run_append_own_at (P:=P) (W.alloc (.cells cs E')) base t o.type E i z size bytes ht hi hz hsize hby hzs hsz v n xs (hown.alloc _) ⟨W.heap.size,0,none⟩ 1 1 cs.toList (by simp [hcs]) (news_cells W cs E') h1 (by unfold maxLen;omega) hmul (by simp;omega)
 refine wpList_plain hgd fun _ hK=>?_
 unfold Oper.wp execOp
 simp only [ho,resolve,invoke,builtin,Sem.run_bind,Sem.run_pure,Result.andThen_ok,List.map_toArray,List.map_cons,List.map_nil,hs,hx,hrun]
 refine hK _ _ (h v' w' h2 (grown_then (World.grownBy_alloc W _ _) h3) ?_)
 rcases h5 with h5 | h5
 ·exact .inl h5
 ·refine .inr fun k hk=>?_
  rw [h5] at hk
  simp at hk
  omega
theorem byte_row : (Tryz.prog.info? 5).map (fun i=>(i.zero,i.size,i.bytes)) = some (some (.int .u8 0),1,1):=by kernel_rfl
theorem append_byte {ops : Array Oper} {rest : List Oper} {o : Oper} {a : Act} {Q : Exit -> Act -> World -> Prop} {W : World} (hgd : o.guard = none) (s x : Operand)
  (ho : o.op = .call { callee:=.builtin .append,args:=#[s,x],argTypes:=#[139,139] })
  (base : Nat) (v : Value) (n : Nat) (xs : List Value) (y : Value) (hy : y.oneCell' = true) (hs : a.eval s = v) (hown : W.ownsRow base 5 1 v n xs) (hx : a.eval x = .slice (some ⟨W.heap.size,0,none⟩) 1 1)
  (hn : n <= 1000000000) (hbase : base <= W.heap.size)
  (h : ∀ v' w',w'.ownsRow base 5 1 v' (n + 1) (xs ++ [y]) -> W.grownBy w' v.ownBlock -> (v'.ownBlock = v.ownBlock \/ ∀ k,v'.ownBlock = some k -> W.heap.size <= k) -> wpList Tryz.prog ops Q rest (a.put o.dst v') w') :
  wpList Tryz.prog ops Q (o :: rest) a (W.alloc (.cells #[y] 5)):=by
 obtain ⟨i0,hi,hz0,hz1,hz2⟩:=info_parts byte_row
 exact append_new hgd s x 139 5 5 ho base i0 (.int .u8 0) 1 1 Tryz.underlying139 hi hz0 hz1 hz2 rfl (by decide) (by decide) v n xs hs hown hx #[y] rfl (by intro u hu;simp at hu;subst hu;exact hy) hn hbase h
theorem append_byte_at {ops : Array Oper} {rest : List Oper} {o : Oper} {a : Act} {Q : Exit -> Act -> World -> Prop} {W : World} (hgd : o.guard = none) (s x : Operand)
  (ho : o.op = .call { callee:=.builtin .append,args:=#[s,x],argTypes:=#[139,139] })
  (base : Nat) (v : Value) (n : Nat) (xs : List Value) (y : Value) (hy : y.oneCell' = true) (hs : a.eval s = v) (hown : W.ownsRow base 5 1 v n xs) (N : Nat) (hN : N = W.heap.size) (hx : a.eval x = .slice (some ⟨N,0,none⟩) 1 1)
  (hn : n <= 1000000000) (hbase : base <= W.heap.size)
  (h : ∀ v' w',w'.ownsRow base 5 1 v' (n + 1) (xs ++ [y]) -> W.grownBy w' v.ownBlock -> (v'.ownBlock = v.ownBlock \/ ∀ k,v'.ownBlock = some k -> W.heap.size <= k) -> wpList Tryz.prog ops Q rest (a.put o.dst v') w') :
  wpList Tryz.prog ops Q (o :: rest) a (W.alloc (.cells #[y] 5)):=by
 subst hN
 exact append_byte hgd s x ho base v n xs y hy hs hown hx hn hbase h
theorem own_byte {w : World} {B : Nat} {v : Value} {bs : List UInt8} {z : Int} (c : UInt8) (hz : z = (c.toNat : Int)) (h : w.ownsRow B 5 1 v (bs.length + 1) (Lib.byteCells bs ++ [.int .u8 z])) : w.ownsRow B 5 1 v (bs ++ [c]).length (Lib.byteCells (bs ++ [c])):=by
 subst hz
 rw [List.length_append,Lib.byteCells_append]
 exact h
theorem conv_row {w : World} {B : Nat} {v : Value} {bs : List UInt8} (hown : w.ownsRow B 5 1 v bs.length (Lib.byteCells bs)) (hne : 0 < bs.length) : ∀ src dst,Tryz.prog.underlying src = some (.slice 5) -> Tryz.prog.underlying dst = some .string -> (convert src dst v).run Tryz.prog w = .ok (.string ⟨bs.toArray⟩) w:=by
 intro src dst hs hd
 obtain ⟨g,cap,rfl,_,_⟩:=hown.form hne
 rw [run_convert_bytes_string (P:=Tryz.prog) w src dst 5 _ _ _ hs Tryz.underlying5 hd]
 have hc:=hown.cells (g:=g) rfl
 have hmap : Lib.byteCells bs = (bs.map fun b=>(b.toNat : Int)).map (Value.int .u8):=by simp [Lib.byteCells]
 have hl:=run_loadCells_list (P:=Tryz.prog) (w:=w) ⟨g,0,none⟩ (Lib.byteCells bs) hc
 rw [Lib.byteCells_length] at hl
 rw [run_bytesToString (P:=Tryz.prog) w ⟨g,0,none⟩ bs.length cap (bs.map fun b=>(b.toNat : Int)) (by rw [hl,hmap])]
 rw [foldl_push_byteCells,show ByteArray.empty.data = #[] from rfl,Array.empty_append]
theorem i64_or_nat (a b : Nat) (ha : a < 9223372036854775808) (hb : b < 9223372036854775808) : bits .or .i64 (a : Int) (b : Int) = ((a ||| b : Nat) : Int):=by
 show IntKind.i64.wrap ((BitVec.ofInt 64 (a : Int) ||| BitVec.ofInt 64 (b : Int)).toNat : Nat) = _
 rw [BitVec.toNat_or,ofInt_nat64 a ha,ofInt_nat64 b hb,IntKind.wrap_i64]
 have:=Nat.or_lt_two_pow (n:=63) ha hb
 omega
theorem i64_and4 (n : Int) : bits .and .i64 n 15 = n % 16:=by
 have hm : (BitVec.ofInt 64 15).toNat = 2 ^ 4 - 1:=by decide
 have key : (BitVec.ofInt 64 n &&& BitVec.ofInt 64 15).toNat = (n % ((2 ^ 64 : Nat) : Int)).toNat % 2 ^ 4:=by
  rw [BitVec.toNat_and,BitVec.toNat_ofInt,hm,Nat.and_two_pow_sub_one_eq_mod]
 show IntKind.i64.wrap ((BitVec.ofInt 64 n &&& BitVec.ofInt 64 15).toNat : Nat) = n % 16
 rw [key,IntKind.wrap_i64]
 omega
end
section
open Go Go.RowKit
def hexD (k : Nat) : UInt8:=UInt8.ofNat (if k < 10 then 48 + k else 87 + k)
def DIG : ByteArray:=⟨#[48,49,50,51,52,53,54,55,56,57,97,98,99,100,101,102]⟩
theorem dig_fin : ∀ k : Fin 16,DIG.data.toList.getD k.val 0 = hexD k.val:=by decide +kernel
theorem dig_at (k : Nat) (h : k < 16) (h2 : k < DIG.size) : DIG[k]'h2 = hexD k:=by
 rw [<- dig_fin ⟨k,h⟩]
 rw [List.getD_eq_getElem?_getD,List.getElem?_eq_getElem (by simpa using h2)]
 rfl
def hexL (N : Nat) : List UInt8:=[hexD (N / 16 ^ 5 % 16),hexD (N / 16 ^ 4 % 16),hexD (N / 16 ^ 3 % 16),hexD (N / 16 ^ 2 % 16),hexD (N / 16 ^ 1 % 16),hexD (N / 16 ^ 0 % 16)]
def hrow (N : Nat) : Nat -> List UInt8
 | 0=>[0,0,0,0,0,0]
 | 1=>[0,0,0,0,0,hexD (N / 16 ^ 0 % 16)]
 | 2=>[0,0,0,0,hexD (N / 16 ^ 1 % 16),hexD (N / 16 ^ 0 % 16)]
 | 3=>[0,0,0,hexD (N / 16 ^ 2 % 16),hexD (N / 16 ^ 1 % 16),hexD (N / 16 ^ 0 % 16)]
 | 4=>[0,0,hexD (N / 16 ^ 3 % 16),hexD (N / 16 ^ 2 % 16),hexD (N / 16 ^ 1 % 16),hexD (N / 16 ^ 0 % 16)]
 | 5=>[0,hexD (N / 16 ^ 4 % 16),hexD (N / 16 ^ 3 % 16),hexD (N / 16 ^ 2 % 16),hexD (N / 16 ^ 1 % 16),hexD (N / 16 ^ 0 % 16)]
 | _=>hexL N
theorem hrow_len (N : Nat) (j : Nat) (h : j <= 6) : (hrow N j).length = 6:=by
 rcases (show j = 0 \/ j = 1 \/ j = 2 \/ j = 3 \/ j = 4 \/ j = 5 \/ j = 6 by omega) with rfl | rfl | rfl | rfl | rfl | rfl | rfl <;> rfl
theorem hrow_set (N : Nat) (j : Nat) (h : j < 6) : (hrow N j).set (5 - j) (hexD (N / 16 ^ j % 16)) = hrow N (j + 1):=by
 rcases (show j = 0 \/ j = 1 \/ j = 2 \/ j = 3 \/ j = 4 \/ j = 5 by omega) with rfl | rfl | rfl | rfl | rfl | rfl <;> rfl
theorem hex_ok (N : Nat) (hN : N < 16777216) (w : World) : Calls Tryz.prog 162 #[.int .i64 (N : Int)] w fun e w'=>e = .returned (.tuple #[.string ⟨(hexL N).toArray⟩,.int .i64 0]) /\ Below w.heap.size w w':=by
 have h1 : ¬ (N : Int) < 0:=by omega
 have h2 : ¬ (16777215 : Int) < (N : Int):=by omega
 have hr0 : RowB (w.alloc (.cells #[.int .u8 0,.int .u8 0,.int .u8 0,.int .u8 0,.int .u8 0,.int .u8 0] 258)) w.heap.size (hrow N 0) :=
  RowB.new w _ 258 0 0 _ (.inr rfl) (fun j hj=>by
   have hj2 : j < 6:=hj
   rcases (show j = 0 \/ j = 1 \/ j = 2 \/ j = 3 \/ j = 4 \/ j = 5 by omega) with rfl | rfl | rfl | rfl | rfl | rfl <;> rfl)
 have hb0 : Below w.heap.size w (w.alloc (.cells #[.int .u8 0,.int .u8 0,.int .u8 0,.int .u8 0,.int .u8 0,.int .u8 0] 258)):=(Below.refl _ w).alloc (Nat.le_refl _) _
 have HR0:=Lib.hid hr0
 have HB0:=Lib.hid hb0
 clear hr0 hb0
 go_enter Tryz.func162,Tryz.ntmps162
 go_wp2_with fail
 generalize w.alloc (.cells #[.int .u8 0,.int .u8 0,.int .u8 0,.int .u8 0,.int .u8 0,.int .u8 0] 258) = W0 at *
 generalize hg : w.heap.size = g at *
 have HG:=Lib.hid hg
 clear hg
 go_loopw [0,12] (fun n i wr=>∃ j M : Nat,j <= 6 /\ i = .int .i64 (j : Int) /\ n = .int .i64 (M : Int) /\ Hid (M = N / 16 ^ j) /\ M < 16777216 /\ RowB wr g (hrow N j) /\ Below g w wr) (fun _ i _=>6 - (intOf i).toNat)
 case atStart=>exact ⟨0,N,by omega,rfl,rfl,Lib.hid (by simp),hN,HR0.out,HB0.out⟩
 case round =>
  obtain ⟨j,M,hj,rfl,rfl,HM,hM,hr,hb⟩:=hrel
  by_cases hj6 : j < 6
  ·have hjz : (j : Int) < 6:=by omega
   have hln:=hrow_len N j hj
   obtain ⟨d,hd⟩ : ∃ d : Nat,d = 5 - j:=⟨_,rfl⟩
   have hdz : 5 - (j : Int) = (d : Int):=by omega
   have hd6 : (d : Int) < 6:=by omega
   have hfz : wr.frozen? ⟨g,d,none⟩ = false:=hr.frozen (by omega)
   obtain ⟨c0,hc⟩ : ∃ c0 : Int,wr.cell? ⟨g,d,none⟩ = some (.int .u8 c0):=⟨_,hr.cell (by omega)⟩
   obtain ⟨q,hq⟩ : ∃ q : Nat,q = M % 16:=⟨_,rfl⟩
   have hq16 : q < 16:=by omega
   have hand : bits .and .i64 (M : Int) 15 = (q : Int):=by rw [i64_and4];omega
   have hst:=hr.set (j:=d) (by omega) (hexD (N / 16 ^ j % 16))
   rw [hd,hrow_set N j hj6,<- hd] at hst
   have hdv:=dig_at q hq16 hq16
   have hqn : Hid (N / 16 ^ j % 16 = q):=Lib.hid (by rw [<- HM.out];exact hq.symm)
   have HST:=Lib.hid hst
   have HDV:=Lib.hid hdv
   have hlt:=hr.lt
   clear hst hdv hq hd
   unfold DIG at HDV
   go_wp2_with fail
   have hrow2:=HST.out
   rw [hqn.out] at hrow2
   refine ⟨⟨j + 1,M / 16,by omega,by go_num,by go_num,Lib.hid (by rw [HM.out,Nat.div_div_eq_div_mul,Nat.pow_succ]),by omega,?_,below_setCell hb (p:=⟨g,d,none⟩) (Nat.le_refl _) _⟩,by simp [intOf];omega⟩
   rw [HDV.out]
   exact hrow2
  ·obtain rfl : j = 6:=by omega
   have hnl : ¬ ((6 : Nat) : Int) < 6:=by omega
   have hcv:=hr.conv 6 139 9 Tryz.underlying139 Tryz.underlying9
   rw [hrow_len N 6 (by omega)] at hcv
   go_wp2_with fail
   go_ret2
   exact ⟨rfl,HG.out ▸ hb⟩
end
end Go.Proofs.YtegjjhjgfkcbhaaGreatDoor
