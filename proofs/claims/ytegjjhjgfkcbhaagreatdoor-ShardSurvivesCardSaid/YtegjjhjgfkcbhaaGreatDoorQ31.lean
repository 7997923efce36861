/- WOpen WRow WSrtP WAll. Conditions: as each part says. -/
import Derived.Test.YtegjjhjgfkcbhaaGreatDoorQ30
import Derived.Test.YtegjjhjgfkcbhaaGreatDoorQ20
import Derived.Test.YtegjjhjgfkcbhaaGreatDoorChecked
import Derived.ProofKit
import Derived.OpenShut
import Derived.Lib.SmallJoins
import Derived.Deep.Slices
import Derived.Test.YtegjjhjgfkcbhaaGreatDoorQ12
import Derived.Shelf.SlSortCmp.WholeK
import Derived.Test.YtegjjhjgfkcbhaaGreatDoorQWSl
set_option linter.unusedVariables false
set_option linter.unusedSimpArgs false
set_option maxRecDepth 100000
set_option maxHeartbeats 16000000
namespace Go.Proofs.YtegjjhjgfkcbhaaGreatDoor
section
open Go Go.ChangeShapes Go.WideShapes Go.ChangeAt Go.RowKit
theorem lt_of_cell {w : World} {p : Addr} {v : Value} (h : w.cell? p = some v) : p.block < w.heap.size:=by
 rcases Nat.lt_or_ge p.block w.heap.size with h' | h'
 ·exact h'
 ·simp [World.cell?,Array.getElem?_eq_none h'] at h
theorem reads_arg {w : World} {a : Addr} {len : Nat} {zs : List Int} (hl : len <= zs.length) (hc : ∀ i,i < zs.length -> w.cell? (a.add i) = some (.int .i64 (zs.getD i 0))) : Reads w w.heap.size 1 (some a) len (ints (zs.take len)):=by
 refine ⟨by simp [ints];omega,fun h0=>⟨a,rfl,?_,fun j u hj=>?_⟩⟩
 ·have:=lt_of_cell (hc 0 (by omega))
  rwa [block_of_add] at this
 ·have hj':=(List.getElem?_eq_some_iff.1 hj).1
  simp [ints] at hj'
  rw [hc j (by omega),<- hj]
  unfold ints
  simp only [List.getElem?_map]
  rw [List.getElem?_take,if_pos (by omega),List.getD_eq_getElem?_getD,List.getElem?_eq_getElem (by omega)]
  rfl
theorem open_l {H : Type} {enc : TypeId × Value -> H} {W : World} {spare : Nat -> Bool} {a : Option Addr} {len cap : Nat} {d : DataW H} {p : List MemPlace} {hd : Bool}
  (h : DataW.Trod enc Tryz.prog W 0 spare hd 27 (.slice a len cap) d p) : ∃ l,Reads W W.heap.size 1 a len (ints l) /\ len <= maxLen:=by
 obtain ⟨fuel,hf⟩:=h
 rcases open_ints Tryz.underlying27 Tryz.underlying3 (by kernel_rfl) hf with ⟨hcs,_⟩ | ⟨x,l,c,zs,hcs,_,hl,hm,hz,_,hcell,hwz⟩
 ·simp [Value.cells] at hcs
  obtain ⟨rfl,rfl,rfl⟩:=hcs
  exact ⟨[],Reads.none_,by decide⟩
 ·simp [Value.cells] at hcs
  obtain ⟨rfl,rfl,rfl⟩:=hcs
  refine ⟨zs.take len,reads_arg ?_ hcell,by omega⟩
  rw [hz]
  split <;> omega
theorem flat_at {α : Type} (enc : α -> List Value) (s : Nat) (hs : 0 < s) (he : ∀ x,(enc x).length = s) (l : List α) (j : Nat) (u : Value) (h : (l.flatMap enc)[j]? = some u) : ∃ x,l[j / s]? = some x /\ (enc x)[j % s]? = some u:=by
 induction l generalizing j with
 | nil=>simp at h
 | cons x r ih =>
  rw [List.flatMap_cons] at h
  by_cases hj : j < s
  ·rw [List.getElem?_append_left (by rw [he];exact hj)] at h
   refine ⟨x,?_,?_⟩
   ·rw [Nat.div_eq_of_lt hj]
    rfl
   ·rw [Nat.mod_eq_of_lt hj]
    exact h
  ·rw [List.getElem?_append_right (by rw [he];omega),he] at h
   obtain ⟨y,h1,h2⟩:=ih _ h
   have e : j = (j - s) + s:=by omega
   refine ⟨y,?_,?_⟩
   ·rw [e,Nat.add_div_right _ hs]
    exact h1
   ·rw [e,Nat.add_mod_right]
    exact h2
theorem cells3 : Tryz.prog.cellsOf 3 = 1:=by kernel_rfl
theorem cells27 : Tryz.prog.cellsOf 27 = 1:=by kernel_rfl
section
variable {H : Type} {enc : TypeId × Value -> H} {W : World} {spare : Nat -> Bool} {a : Option Addr} {len cap : Nat} {d : DataW H} {p : List MemPlace} {hd : Bool}
end
section
variable {H : Type} {enc : TypeId × Value -> H} {W : World} {spare : Nat -> Bool} {a : Option Addr} {len cap : Nat} {d : DataW H} {p : List MemPlace} {hd : Bool}
end
end
section
open Go Go.RowKit Go.Maps
open Go.Sort (HoldsK grow flatK get_flatK size_flatK PermIn SortedIn SWO)
section
variable {α : Type} [Inhabited α] {enc : α -> List Value} {k : Nat} {w w' : World} {g off : Nat} {d d' : Array α}
theorem holdsK_of (h : ∀ i c,i < d.size -> c < k -> w.cell? ⟨g,off + i * k + c,none⟩ = some (enc d[i]!)[c]! /\ w.frozen? ⟨g,off + i * k + c,none⟩ = false) : HoldsK enc k w g off d:=by
 intro t ht
 rw [size_flatK] at ht
 have k0 : 0 < k:=Nat.pos_of_ne_zero (by rintro rfl;simp at ht)
 have e : t / k * k + t % k = t:=by rw [Nat.mul_comm];exact Nat.div_add_mod t k
 have:=h (t / k) (t % k) (Nat.div_lt_of_lt_mul (by rwa [Nat.mul_comm])) (Nat.mod_lt _ k0)
 rw [Nat.add_assoc,e] at this
 rw [get_flatK _ _ _ _ ht]
 exact this
theorem holdsK_keep (h : HoldsK enc k w g off d) (hk : ∀ o,off <= o -> o < off + d.size * k -> w'.cell? ⟨g,o,none⟩ = w.cell? ⟨g,o,none⟩ /\ w'.frozen? ⟨g,o,none⟩ = w.frozen? ⟨g,o,none⟩) : HoldsK enc k w' g off d:=by
 intro t ht
 have ht':=ht
 rw [size_flatK] at ht'
 obtain ⟨h1,h2⟩:=hk (off + t) (by omega) (by omega)
 rw [h1,h2]
 exact h t ht
theorem holdsK_block (h : HoldsK enc k w g off d) (hb : w'.heap[g]? = w.heap[g]?) : HoldsK enc k w' g off d :=
 holdsK_keep h fun o _ _=>⟨World.cell?_of_block hb,World.frozen?_of_block hb⟩
theorem holdsK_part (h : HoldsK enc k w g off d) {a b : Nat} (hab : a <= b) (hb : b <= d.size) : HoldsK enc k w g (off + a * k) (d.extract a b):=by
 refine holdsK_of fun i c hi hc=>?_
 have hs : (d.extract a b).size = b - a:=by simp;omega
 rw [hs] at hi
 have e : (d.extract a b)[i]! = d[a + i]!:=by
  rw [getElem!_pos _ i (by rw [hs];exact hi),getElem!_pos d (a + i) (by omega),Array.getElem_extract]
 have:=h.cell (i:=a + i) (c:=c) (by omega) hc
 rw [e,show off + a * k + i * k + c = off + (a + i) * k + c by rw [Nat.add_mul];omega]
 exact this
theorem sorted_world (hH : HoldsK enc k w g off d) (hg : g < w.heap.size) (hs : d'.size = d.size) (m : Nat) (os : Array Obj) :
  HoldsK enc k (sortWorldK enc k w g off m d' os) g off d' /\ Turn (fun b=>b = g) w (fun b=>b = g) (sortWorldK enc k w g off m d' os) /\
  (∀ p : Addr,(p.off < off \/ off + d.size * k <= p.off) -> p.block < w.heap.size -> (sortWorldK enc k w g off m d' os).cell? p = w.cell? p) /\
  (∀ p : Addr,p.block < w.heap.size -> (sortWorldK enc k w g off m d' os).frozen? p = w.frozen? p):=by
 have h1:=holdsK_sortWorldK_c enc k w g off d d' m os hH hg hs
 refine ⟨h1,⟨rfl,rfl,rfl,size_sortWorldK_c enc k w g off m d' os,fun b hb hne=>?_,fun b hb=>.inl hb⟩,fun p hp hb=>?_,fun p hb=>?_⟩
 ·unfold sortWorldK
  rw [Go.Sort.heap_grow_old _ _ (by rw [Go.Sort.size_putRowK];exact hb)]
  show (w.heap.modify g _)[b]? = _
  rw [Array.getElem?_modify,if_neg (fun e=>hne e.symm)]
 ·unfold sortWorldK
  rw [Go.Sort.cell?_grow _ _ _ (by rw [Go.Sort.size_putRowK];exact hb)]
  exact Go.Sort.cell?_putRow_other id _ g off _ p (.inr (by rw [size_flatK,hs];exact hp))
 ·unfold sortWorldK
  rw [Go.Sort.frozen?_grow _ _ _ (by rw [Go.Sort.size_putRowK];exact hb)]
  exact Go.Sort.frozen?_putRow id _ g off _ p
theorem perm_in (h : PermIn 0 d.size d d') : d'.size = d.size /\ d'.toList.Perm d.toList:=by
 refine ⟨h.1,?_⟩
 have:=h.2.2
 rwa [show d'.extract 0 d.size = d' by rw [<- h.1];simp,show d.extract 0 d.size = d by simp] at this
theorem holdsK_own {base : Nat} {e : TypeId} {c n : Nat} (hk : ∀ x,(enc x).length = k) (h : w.ownsRow base e k (.slice (some ⟨g,0,none⟩) n c) n (d.toList.flatMap enc)) : HoldsK enc k w g 0 d:=by
 have hlen:=h.1
 rw [flat_len enc k hk] at hlen
 refine holdsK_of fun i c hi hc=>?_
 have hlt : i * k + c < (d.toList.flatMap enc).length:=by
  rw [flat_len enc k hk,Array.length_toList]
  have:=Nat.mul_le_mul_right k (show i + 1 <= d.size from hi)
  rw [Nat.add_mul] at this
  omega
 obtain ⟨x,h1,h2⟩:=flat_at enc k (by omega) hk d.toList (i * k + c) _ (List.getElem?_eq_getElem hlt)
 have e1 : (i * k + c) / k = i:=by rw [Nat.mul_comm,Nat.mul_add_div (by omega),Nat.div_eq_of_lt hc];rfl
 have e2 : (i * k + c) % k = c:=by rw [Nat.mul_comm,Nat.mul_add_mod,Nat.mod_eq_of_lt hc]
 rw [e1] at h1
 rw [e2] at h2
 have hx : d[i]! = x:=by
  rw [getElem!_pos d i hi]
  rw [Array.getElem?_toList,Array.getElem?_eq_getElem hi] at h1
  injection h1
 have hc2:=h.cells (g:=g) rfl (i * k + c) _ (List.getElem?_eq_getElem hlt)
 rw [add_flat] at hc2
 have hf:=h.frozenAt (i * k + c)
 refine ⟨?_,?_⟩
 ·have hcx : c < (enc x).length:=by rw [hk];exact hc
  have hv : (enc x)[c]! = (d.toList.flatMap enc)[i * k + c]:=by
   rw [getElem!_pos _ c hcx]
   rw [List.getElem?_eq_getElem hcx] at h2
   exact Option.some.inj h2
  rw [show 0 + i * k + c = 0 + (i * k + c) by omega,hc2,hx,hv]
 ·rw [show 0 + i * k + c = i * k + c by omega]
  exact hf
theorem holdsK_set (h : HoldsK enc k w g off d) {i c0 : Nat} (hi : i < d.size) (hc0 : c0 < k) (x : α) (u : Value) (h1 : (enc x)[c0]! = u) (h2 : ∀ c,c < k -> c ≠ c0 -> (enc x)[c]! = (enc d[i]!)[c]!) :
  HoldsK enc k (w.setCell ⟨g,off + i * k + c0,none⟩ u) g off (d.setIfInBounds i x):=by
 refine holdsK_of fun j c hj hc=>?_
 have hj' : j < d.size:=by simpa using hj
 obtain ⟨e1,e2⟩:=h.cell hj' hc
 refine ⟨?_,by rw [World.frozen?_setCell];exact e2⟩
 by_cases hji : j = i
 ·subst hji
  rw [Go.Sort.getElem!_set_same d j x hj']
  by_cases hcc : c = c0
  ·subst hcc
   rw [World.cell?_setCell_same _ _ _ e1,h1]
  ·rw [World.cell?_setCell_other _ _ _ _ (fun e=>hcc (by injection e;omega)),h2 c hc hcc]
   exact e1
 ·have hne : off + j * k + c ≠ off + i * k + c0:=by
   intro e
   have e' : j * k + c = i * k + c0:=by omega
   have d1 : (j * k + c) / k = j:=by rw [Nat.mul_comm,Nat.mul_add_div (by omega),Nat.div_eq_of_lt hc];rfl
   have d2 : (i * k + c0) / k = i:=by rw [Nat.mul_comm,Nat.mul_add_div (by omega),Nat.div_eq_of_lt hc0];rfl
   rw [e',d2] at d1
   exact hji d1.symm
  have hx : (d.setIfInBounds i x)[j]! = d[j]!:=by
   rw [getElem!_pos _ j hj,getElem!_pos d j hj',Array.getElem_setIfInBounds,if_neg (fun e=>hji e.symm)]
  rw [hx,World.cell?_setCell_other _ _ _ _ (fun e=>hne (by injection e;omega))]
  exact e1
theorem reads_holds (hk : ∀ x,(enc x).length = k) (h : HoldsK enc k w g 0 d) (hg : g < w.heap.size) : Reads w w.heap.size k (some ⟨g,0,none⟩) d.size (d.toList.flatMap enc):=by
 refine ⟨by rw [flat_len enc k hk,Array.length_toList],fun h0=>⟨_,rfl,hg,fun j u hj=>?_⟩⟩
 have hlt:=(List.getElem?_eq_some_iff.1 hj).1
 rw [flat_len enc k hk,Array.length_toList] at hlt
 have k0 : 0 < k:=Nat.pos_of_ne_zero (by rintro rfl;simp at hlt)
 obtain ⟨x,h1,h2⟩:=flat_at enc k k0 hk d.toList j u hj
 have hq : j / k < d.size:=Nat.div_lt_of_lt_mul (by rwa [Nat.mul_comm])
 have hx : d[j / k]! = x:=by
  rw [getElem!_pos d _ hq]
  rw [Array.getElem?_toList,Array.getElem?_eq_getElem hq] at h1
  injection h1
 have:=(h j (by rw [size_flatK];exact hlt)).1
 rw [get_flatK _ _ _ _ hlt,hx] at this
 rw [add_flat,this]
 obtain ⟨hjk,hju⟩:=List.getElem?_eq_some_iff.1 h2
 show some (enc x)[j % k]! = some u
 rw [getElem!_pos (enc x) (j % k) hjk]
 exact congrArg some hju
end
end
section
open Go Go.RowKit Go.Maps
open Go.Sort (HoldsK grow PermIn SortedIn SWO alloc_eq_grow grow_grow)
def cmpZ (x y : Int) : Int:=if x < y then -1 else if y < x then 1 else 0
theorem nan_any (x : Int) (w : World) : Calls Tryz.prog 168 #[.int .i64 x] w fun e w'=>e = .returned (.bool false) /\ w' = w:=by
 go_enter Tryz.func168,Tryz.ntmps168
 go_wp2
 go_ret
 exact ⟨by simp,rfl⟩
theorem cmpI_any (x y : Int) (w : World) : Calls Tryz.prog 129 #[.int .i64 x,.int .i64 y] w fun e w'=>e = .returned (.int .i64 (cmpZ x y)) /\ w' = w:=by
 unfold cmpZ
 by_cases hxy : x < y
 ·rw [if_pos hxy]
  go_enter Tryz.func129,Tryz.ntmps129
  go_wp2_with (go_at_call 168;refine (nan_any _ _).mono ?_;rintro e w' ⟨rfl,rfl⟩)
  go_ret
  exact ⟨rfl,rfl⟩
 ·by_cases hyx : y < x
  ·rw [if_neg hxy,if_pos hyx]
   go_enter Tryz.func129,Tryz.ntmps129
   go_wp2_with (go_at_call 168;refine (nan_any _ _).mono ?_;rintro e w' ⟨rfl,rfl⟩)
   go_ret
   exact ⟨rfl,rfl⟩
  ·rw [if_neg hxy,if_neg hyx]
   go_enter Tryz.func129,Tryz.ntmps129
   go_wp2_with (go_at_call 168;refine (nan_any _ _).mono ?_;rintro e w' ⟨rfl,rfl⟩)
   go_ret
   exact ⟨rfl,rfl⟩
theorem allC_any (x y : Pt) (W : World) : Calls Tryz.prog 128 #[.agg (pcell x).toArray,.agg (pcell y).toArray] W fun e w'=>e = .returned (.int .i64 (cmpZ x.1 y.1)) /\ ∃ q os',w' = grow (W.drewN q) os':=by
 have hcon:=fun W'=>cmpI_any x.1 y.1 W'
 generalize cmpZ x.1 y.1 = r at hcon ⊢
 obtain ⟨x,⟨A,n,c⟩,l⟩:=x
 obtain ⟨y,⟨B,m,d⟩,k⟩:=y
 simp only [pcell]
 simp only at hcon
 go_enter Tryz.func128,Tryz.ntmps128
 go_wp2_with (go_at_call 129;refine (hcon _).mono ?_;rintro e w' ⟨rfl,rfl⟩)
 go_ret
 exact ⟨rfl,0,_,by rw [alloc_eq_grow,alloc_eq_grow,grow_grow];rfl⟩
def cmpP (x y : Pt) : Int:=cmpZ x.1 y.1
theorem ltP (x y : Pt) : ltOf cmpP x y = decide (x.1 < y.1):=by
 unfold ltOf cmpP cmpZ
 by_cases h1 : x.1 < y.1
 ·simp [h1]
 ·by_cases h2 : y.1 < x.1 <;> simp [h1,h2]
theorem swoP : SWO (ltOf cmpP):=⟨fun x=>by rw [ltP];simp,fun x y z h1 h2=>by rw [ltP] at *;simp at *;omega,fun x y z h1 h2=>by rw [ltP] at *;simp at *;omega⟩
theorem pcell_one (x : Pt) : ∀ v ∈ pcell x,v.oneCell' = true:=by
 intro v hv
 simp [pcell] at hv
 rcases hv with rfl | rfl <;> rfl
structure SortPost (enc : Pt -> List Value) (w : World) (g off : Nat) (d : Array Pt) (e : Ending) (w' : World) (d' : Array Pt) : Prop where
 ret : e = .returned (.tuple #[])
 size : d'.size = d.size
 perm : d'.toList.Perm d.toList
 rise : ∀ i j,i < j -> j < d'.size -> d'[i]!.1 <= d'[j]!.1
 holds : HoldsK enc 2 w' g off d'
 turn : Turn (fun b=>b = g) w (fun b=>b = g) w'
theorem sortP_any (g off cap : Nat) (d : Array Pt) (w : World) (hH : HoldsK pcell 2 w g off d) (hg : g < w.heap.size) (hsz : d.size < 4611686018427387904) :
  Calls Tryz.prog 127 #[.slice (some ⟨g,off,none⟩) d.size cap,.func (.func 128) #[] #[]] w fun e w'=>∃ d',SortPost pcell w g off d e w' d':=by
 have eg : ∀ args w,(callFunc 128 args).run Tryz.prog w = .ok (.enter 128 args) w:=enters_of Tryz.func128 (by kernel_rfl) rfl
 have hcon:=AnyQ.slices_SortFunc Tryz.sortP 2 Tryz.isAgg104 Tryz.sizeOf104 pcell (fun _=>rfl) pcell_one cmpP swoP 128 #[] g off cap d w eg (fun _ _ _ _ x y=>allC_any x y _) hH hg hsz
 refine Calls.mono (show Calls Tryz.prog 127 _ w _ from hcon) ?_
 rintro e w' ⟨rfl,d',n,os,hp,hs,rfl⟩
 obtain ⟨h1,h2⟩:=perm_in hp
 obtain ⟨h3,h4,_⟩:=sorted_world hH hg h1 n os
 refine ⟨d',rfl,h1,h2,fun i j hij hj=>?_,h3,h4⟩
 have:=hs i j (Nat.zero_le _) hij (by omega)
 rw [ltP,decide_eq_false_iff_not] at this
 omega
end
section
open Go Go.RowKit Go.Maps
open Go.Sort (HoldsK)
theorem pt_row : (Tryz.prog.info? 104).map (fun i=>(i.zero,i.size,i.bytes)) = some (some (.agg #[.int .i64 0,.slice none 0 0]),2,32):=by kernel_rfl
theorem pts_snoc (l : List Pt) (p : Pt) : pts (l ++ [p]) = pts l ++ pcell p:=by simp [pts]
theorem pts_len (l : List Pt) : (pts l).length = l.length * 2:=flat_len pcell 2 (fun _=>rfl) l
theorem append_pt {ops : Array Oper} {rest : List Oper} {o : Oper} {a : Act} {Q : Exit -> Act -> World -> Prop} {W : World} (hgd : o.guard = none) (s x : Operand)
  (ho : o.op = .call { callee:=.builtin .append,args:=#[s,x],argTypes:=#[38,38] })
  (base : Nat) (v : Value) (n : Nat) (l : List Pt) (y : Int) (A : Option Addr) (m c : Nat) (zs : List Int) (hs : a.eval s = v) (hown : W.ownsRow base 104 2 v n (pts l)) (N : Nat) (hN : N = W.heap.size) (hx : a.eval x = .slice (some ⟨N,0,none⟩) 1 1)
  (hn : n <= 1000000000) (hbase : base <= W.heap.size)
  (h : ∀ v' w',w'.ownsRow base 104 2 v' (n + 1) (pts (l ++ [(y,(A,m,c),zs)])) -> W.grownBy w' v.ownBlock -> (v'.ownBlock = v.ownBlock \/ ∀ k,v'.ownBlock = some k -> W.heap.size <= k) -> wpList Tryz.prog ops Q rest (a.put o.dst v') w') :
  wpList Tryz.prog ops Q (o :: rest) a (W.alloc (.cells #[.int .i64 y,.slice A m c] 104)):=by
 subst hN
 obtain ⟨i0,hi,hz0,hz1,hz2⟩:=info_parts pt_row
 refine append_new hgd s x 38 104 104 ho base i0 (.agg #[.int .i64 0,.slice none 0 0]) 2 32 Tryz.underlying38 hi hz0 hz1 hz2 rfl (by decide) (by decide) v n (pts l) hs hown hx #[.int .i64 y,.slice A m c] rfl (by intro u hu;simp at hu;rcases hu with rfl | rfl <;> rfl) hn hbase (fun v' w' h1 h2 h3=>?_)
 refine h v' w' ?_ h2 h3
 rw [pts_snoc]
 exact h1
theorem made_pts (w : World) (n : Nat) (hn : n <= 600) (cs : Array Value) (base : Nat) (hb : base <= w.heap.size) : (w.alloc (.cells (madeCells cs (n * 2)) 104)).ownsRow base 104 2 (.slice (some ⟨w.heap.size,0,none⟩) 0 n) 0 (pts []) :=
 ⟨rfl,.inr ⟨w.heap.size,n,_,rfl,hb,heap_alloc_new w _,Nat.zero_le _,by unfold maxLen;omega,size_madeCells _ _,by simp [pts]⟩⟩
theorem own_iter {w : World} {base r : Nat} {e : TypeId} {s : Nat} {v : Value} {n : Nat} {xs : List Value} (h : w.ownsRow base e s v n xs) (hr : ∃ x y z t,w.heap[r]? = some (.mapIter x y z t)) : v.ownBlock ≠ some r:=by
 intro e
 obtain ⟨x,y,z,t,hr⟩:=hr
 rcases h.2 with ⟨rfl,_⟩ | ⟨g,c1,cur,rfl,_,h3,_⟩
 ·cases e
 ·injection e with e
  have e : g = r:=e
  subst e
  rw [h3] at hr
  cases hr
structure RowP (w wr : World) (G : Nat -> Prop) (s : Nat) (v : Value) (L : List Pt) (X : List Pnt) : Prop where
 own : wr.ownsRow s 104 2 v L.length (pts L)
 form : ∃ g c,v = .slice (some ⟨g,0,none⟩) L.length c
 perm : (L.map bareP).Perm X
 vec : ∀ p ∈ L,VecIn w G (slcP p) p.2.2
 below : Below s w wr
 le : s <= wr.heap.size
theorem RowP.len {w wr : World} {G : Nat -> Prop} {s : Nat} {v : Value} {L : List Pt} {X : List Pnt} (h : RowP w wr G s v L X) : L.length = X.length:=by
 have:=h.perm.length_eq
 rwa [List.length_map] at this
theorem RowP.iter {w wr w' : World} {G : Nat -> Prop} {s r : Nat} {v : Value} {L : List Pt} {X : List Pnt} (h : RowP w wr G s v L X) (hg : wr.grownBy w' (some r)) (hr : s <= r) (hit : v.ownBlock ≠ some r) : RowP w w' G s v L X :=
 ⟨own_keep h.own (fun g hg'=>hg.block g (h.own.lt g hg').2 (fun e=>hit (by rw [hg',e]))),h.form,h.perm,h.vec,
  h.below.trans ⟨hg.os,hg.tape,hg.output,by have:=hg.size;have:=h.le;omega,fun b hb=>hg.block b (by have:=h.le;omega) (by simp;omega)⟩,Nat.le_trans h.le hg.size⟩
theorem RowP.same {w wr : World} {G : Nat -> Prop} {s : Nat} {v : Value} {L : List Pt} {X Y : List Pnt} (h : RowP w wr G s v L X) (hp : X.Perm Y) : RowP w wr G s v L Y:=⟨h.own,h.form,h.perm.trans hp,h.vec,h.below,h.le⟩
theorem RowP.under {w wr w' : World} {G : Nat -> Prop} {s : Nat} {v : Value} {L : List Pt} {X : List Pnt} (h : RowP w wr G s v L X) (hb : Below wr.heap.size wr w') : RowP w w' G s v L X :=
 ⟨keep_none h.own hb,h.form,h.perm,h.vec,h.below.trans (hb.mono h.le),Nat.le_trans h.le hb.size⟩
theorem RowP.step {w wr w' : World} {G : Nat -> Prop} {s : Nat} {v v' : Value} {L : List Pt} {X : List Pnt} {p : Pt} (h : RowP w wr G s v L X) (ho : w'.ownsRow s 104 2 v' (L.length + 1) (pts (L ++ [p]))) (hg : wr.grownBy w' v.ownBlock) (hv : VecIn w G (slcP p) p.2.2) :
  RowP w w' G s v' (L ++ [p]) (bareP p :: X):=by
 have hlen : (L ++ [p]).length = L.length + 1:=by simp
 refine ⟨by rw [hlen];exact ho,?_,?_,fun q hq=>?_,h.below.trans (below_own h.own hg h.le),Nat.le_trans h.le hg.size⟩
 ·obtain ⟨g,cap,hv',_⟩:=ho.form (by omega)
  exact ⟨g,cap,by rw [hlen];exact hv'⟩
 ·rw [List.map_append]
  have e : L.map bareP ++ [p].map bareP = L.map bareP ++ [bareP p]:=rfl
  rw [e]
  exact (List.perm_append_comm.trans (by simp : ([bareP p] ++ L.map bareP).Perm (bareP p :: L.map bareP))).trans (h.perm.cons _)
 ·rcases List.mem_append.1 hq with hq | hq
  ·exact h.vec q hq
  ·rw [List.mem_singleton.1 hq]
   exact hv
def VAllPost (G : Nat -> Prop) (T : List Pnt) (w : World) (e : Ending) (w' : World) : Prop :=
 ∃ (g c : Nat) (d : Array Pt),e = .returned (.slice (some ⟨g,0,none⟩) d.size c) /\ d.size <= c /\ c <= maxLen /\ w.heap.size <= g /\ g < w'.heap.size /\ HoldsK pcell 2 w' g 0 d /\ d.toList.map bareP = T /\ (∀ p ∈ d.toList,VecIn w G (slcP p) p.2.2) /\ Below w.heap.size w w'
theorem rise_unique : ∀ {S T : List Pnt},S.Pairwise (fun p q=>p.1 <= q.1) -> Rise T -> S.Perm T -> S = T
 | [],T,_,_,hp=>hp.nil_eq
 | p :: S,[],_,_,hp=>by simpa using hp.length_eq
 | p :: S,q :: T,hS,hT,hp=>by
  obtain ⟨h1,h2⟩:=List.pairwise_cons.1 hS
  obtain ⟨k1,k2⟩:=List.pairwise_cons.1 hT
  have hpq : p = q:=by
   rcases List.mem_cons.1 (hp.mem_iff.1 (List.mem_cons_self ..)) with h | h
   ·exact h
   ·exfalso
    have a:=k1 p h
    rcases List.mem_cons.1 (hp.mem_iff.2 (List.mem_cons_self ..)) with e | e
    ·rw [e] at a
     omega
    ·have:=h1 q e
     omega
  subst hpq
  rw [rise_unique h2 k2 (hp.cons_inv)]
theorem sorted_map {d : Array Pt} (h : ∀ i j,i < j -> j < d.size -> d[i]!.1 <= d[j]!.1) : (d.toList.map bareP).Pairwise fun p q=>p.1 <= q.1:=by
 rw [List.pairwise_map,List.pairwise_iff_getElem]
 intro i j hi hj hij
 have:=h i j hij (by simpa using hj)
 rw [getElem!_pos d i (by simpa using hi),getElem!_pos d j (by simpa using hj)] at this
 simpa [bareP] using this
section
variable {w w' : World} {F : Nat -> Prop} {t bm fm dim : Nat} {rv : Value} {N : NT} {B U : List Ent}
theorem vall_any (h : TreeW w F t bm fm dim rv N B U) {T : List Pnt} (hT : T.Perm ((B ++ U).map bare)) (hr : Rise T) :
  Calls Tryz.prog 83 #[.pointer (some ⟨t,0,none⟩)] w (VAllPost (Core F t bm fm) T w):=by
 have hl:=vlen_any h
 have hlen:=h.len
 obtain ⟨i0,hi,hz0,hz1,hz2⟩:=info_parts pt_row
 have hmk:=fun (w : World) (n : Nat) (hn : n <= 512)=>run_make (P:=Tryz.prog) w 38 104 i0 (.agg #[.int .i64 0,.slice none 0 0]) Tryz.underlying38 hi hz0 .i64 .i64 0 (n : Int) (by omega) (by omega) (by rw [hz2];omega) (by omega)
 obtain ⟨n,hn⟩ : ∃ n,n = B.length + U.length:=⟨_,rfl⟩
 rw [<- hn] at hl
 have hn5 : n <= 512:=by omega
 have hmk:=fun w=>hmk w n hn5
 have h00 : Int.toNat 0 = 0:=rfl
 have h01 : Int.toNat (n : Int) = n:=Int.toNat_natCast n
 simp only [h00,h01] at hmk
 have HTR:=Lib.hid (And.intro hT (And.intro hr hlen))
 have HT:=Lib.hid h
 clear h00 h01 hT hr hlen hn h
 generalize hsz : w.heap.size = s at *
 have HSZ:=Lib.hid hsz
 clear hsz
 have hix0 : ∀ w,(Instr.index 197 (.agg #[.map (some bm),.map (some fm)]) (.int .i64 0)).run Tryz.prog w = .ok (.map (some bm)) w:=fun w=>by kernel_rfl
 have hix1 : ∀ w,(Instr.index 197 (.agg #[.map (some bm),.map (some fm)]) (.int .i64 1)).run Tryz.prog w = .ok (.map (some fm)) w:=fun w=>by kernel_rfl
 go_enter Tryz.func83,Tryz.ntmps83
 go_wp2_with fail
 refine hl.mono ?_
 rintro e w1 ⟨rfl,q1,rfl⟩
 clear hl
 have hb1 : Below w.heap.size w ((w.drewN q1).alloc (.cells (madeCells #[.int .i64 0,.slice none 0 0] (n * 2)) 104)):=(below_drewN (Below.refl _ w) q1).alloc (Nat.le_refl _) _
 have R1 : RowP w ((w.drewN q1).alloc (.cells (madeCells #[.int .i64 0,.slice none 0 0] (n * 2)) 104)) (Core F t bm fm) s (.slice (some ⟨w.heap.size,0,none⟩) 0 n) [] [] :=
  ⟨made_pts (w.drewN q1) n (by omega) #[.int .i64 0,.slice none 0 0] s (by rw [<- HSZ.out];exact Nat.le_refl _),⟨_,_,rfl⟩,List.Perm.refl _,fun p hp=>by simp at hp,by rw [<- HSZ.out];exact hb1,by rw [<- HSZ.out];exact hb1.size⟩
 have t1:=HT.out.below hb1
 have c3:=t1.c3
 have c4:=t1.c4
 have tl:=t1.tlt
 have HR1:=Lib.hid R1
 clear R1 t1 hb1
 go_wp2_with fail
 go_quiet (fail)
 have HR2:=Lib.hid (HR1.out.under (below_drewN (Below.refl _ _) nq))
 generalize hW2 : ((w.drewN q1).alloc (.cells (madeCells #[.int .i64 0,.slice none 0 0] (n * 2)) 104)).drewN nq = W2 at *
 clear hW2 c3 c4 tl HR1
 go_wp2_with fail
 go_loopw [3,20] (fun vv vi wr=>∃ (i : Nat) (L : List Pt),i <= 2 /\ vi = .int .i64 i /\ Hid (RowP w wr (Core F t bm fm) s vv L (if i = 0 then [] else if i = 1 then B.map bare else (B ++ U).map bare))) (fun _ vi _=>2 - (intOf vi).toNat)
 case atStart=>exact ⟨0,[],by omega,rfl,HR2⟩
 case round =>
  obtain ⟨i,L,hi2,rfl,HL⟩:=hrel
  have hi' : i = 0 \/ i = 1 \/ i = 2:=by omega
  clear HR2 hi2
  rcases hi' with rfl | rfl | rfl
  ·have R3 : RowP w wr (Core F t bm fm) s _ L ([]):=HL.out
   have t3:=HT.out.below (by rw [HSZ.out];exact R3.below)
   obtain ⟨D,hDo,hD⟩:=t3.mb
   have HDM:=Lib.hid hD
   have HR3:=Lib.hid R3
   have hbs : bm < s:=by rw [<- HSZ.out];exact HT.out.mb.lt
   have hsr:=R3.le
   clear HL t3 hD R3
   obtain ⟨w0,hw0⟩ : ∃ w0,w0 = wr:=⟨_,rfl⟩
   have HW0:=Lib.hid hw0
   clear hw0
   go_wp2_with (first | (at_range;refine wpList_range_own _ rfl _ 169 rfl 3 27 law3 Tryz.underlying169 hR bm B.length D rfl hDo ?_;intro w4 hrg4 hg4 hs4) | go_in)
   go_frame
   have HR4:=Lib.hid (HR3.out.under ⟨hg4.os,hg4.tape,hg4.output,hg4.size,fun b hb=>hg4.block b hb (by simp)⟩)
   have hd0 : doneE B (Maps.has D) = []:=done_start (fun p hp=>by rw [HDM.out.has];exact (isId_iff _ _).2 ⟨p,hp,rfl⟩)
   have HR4' : Hid (RowP w w4 (Core F t bm fm) s u3 L (doneE B (Maps.has D) ++ [])):=Lib.hid (by rw [hd0];exact HR4.out)
   clear HR3 HR4 hd0 hs4 hg4 hDo
   generalize wr.heap.size = r at *
   go_loopw [3] (fun vv wr'=>∃ (left : Lit -> Bool) (cnt : Nat) (L' : List Pt),wr'.ranges Tryz.prog 3 hR bm r B.length D left cnt /\ Hid (RowP w wr' (Core F t bm fm) s vv L' (doneE B left ++ [])) /\ Hid (∀ z,left z = true -> Maps.has D z = true)) (fun _ wr'=>wr'.rangeLeft bm r)
   case atStart=>exact ⟨_,_,L,hrg4,HR4',Lib.hid (fun _ h=>h)⟩
   case round =>
    obtain ⟨left,cnt,L',hrg,HRL,HL⟩:=hrel
    clear hrg4 HR4'
    go_wp2_with (at_next;refine wpList_next_ranges _ rfl _ rfl 3 law3 hR (Value.int .i64) id keyInv valInv bm r B.length D left cnt rfl hrg ?_ ?_)
    ·intro _ hl0
     have HRE:=Lib.hid HRL.out
     rw [done_end hl0] at HRE
     clear hrg hl0 HRL HL
     go_wp2_with fail
     go_roundw
     case rel=>exact ⟨0+1,L',by omega,by go_num,Lib.hid (HRE.out.same (List.Perm.of_eq (List.append_nil _)))⟩
     case measure=>simp [intOf]
    ·intro x c0 kl0 d0 p0 w5 cnt5 hk0 hlk hcv hat hrg5 hlt5 hg5 hs5 hen
     obtain ⟨x',ex,rfl,hwx⟩:=Maps.keyOf_int_inv Tryz.underlying3 hk0
     injection ex with _ ex
     subst ex
     have hid : isId x B = true:=by
      have:=HL.out _ hlk
      rw [show (Lit.int IntKind.i64 x) = kl x from rfl,HDM.out.has] at this
      exact this
     obtain ⟨⟨y,u,l⟩,hp,hpx⟩:=(isId_iff _ _).1 hid
     have hpx : y = x:=hpx
     subst hpx
     have hcu : u = c0:=by
      have h1:=HDM.out.at_ _ hp (.held (.slice none 0 0))
      have h2:=hat (.held (.slice none 0 0))
      have h3:=h1.symm.trans h2
      have h4:=hR_inj hcv
      exact DataW.held.inj (h3.trans h4)
     subst hcu
     have hvec:=HT.out.vec _ (List.mem_append_left U hp)
     obtain ⟨Au,cu,hu,_⟩:=hvec.reads
     change u = .slice Au l.length cu at hu
     subst hu
     have R5:=HRL.out.iter hg5 (by omega) (own_iter HRL.out.own (ranges_iter hrg))
     have hit5:=ranges_iter hrg5
     have hds:=done_step (left:=left) HT.out.mb.apart hp hlk
     have hle:=R5.le
     have hlen5 : L'.length <= 1000000000:=by
      rw [R5.len]
      have h1 : (doneE B left).length <= B.length:=by unfold doneE;rw [List.length_map];exact List.length_filter_le ..
      have h2:=HT.out.len
      simp
      omega
     have HR5:=Lib.hid R5
     have hown5:=R5.own
     have HM:=Lib.hid (And.intro hlt5 (And.intro hrg.left_eq hrg5.left_eq))
     have H5:=Lib.hid (And.intro hrg5 (And.intro hit5 (And.intro hds (And.intro hvec HL.out))))
     clear hid hcv hat hrg5 hit5 hg5 hs5 hlt5 hp hrg hk0 hwx HRL R5 hvec hlk HL hds
     go_wp2_with (at_builtin;refine append_pt rfl (.tmp 30) (.tmp 34) rfl s _ L'.length L' y Au l.length cu l rfl hown5 _ rfl rfl hlen5 hle ?_;intro v6 w6 hown6 hg6 hv6)
     have R6:=HR5.out.step hown6 hg6 H5.out.2.2.2.1
     have hrg6:=ranges_keep (w':=w6) H5.out.1 (hg6.block bm (by omega) (fun e=>by have:=HR5.out.own.lt bm e.symm;omega)) (hg6.block r (by
      obtain ⟨a1,a2,a3,a4,h5⟩:=H5.out.2.1
      exact (Array.getElem?_eq_some_iff.1 h5).1) (fun e=>own_iter HR5.out.own H5.out.2.1 e.symm))
     have HR6:=Lib.hid (R6.same (Y:=doneE B (fun z=>left z && !z.sameKey (kl y)) ++ []) (by
      refine List.Perm.trans ?_ (H5.out.2.2.1.symm.append_right _)
      exact List.Perm.refl _))
     have HL6:=Lib.hid (show ∀ z,(left z && !z.sameKey (kl y)) = true -> Maps.has D z = true from fun z hz=>H5.out.2.2.2.2 z (by
      cases hc : left z
      ·rw [hc] at hz
       cases hz
      ·rfl))
     have HM7:=Lib.hid hrg6.left_eq
     have HRG:=Lib.hid hrg6
     clear R6 hrg6 hown6 hg6 hv6 hown5
     go_wp2_with fail
     go_roundw
     case rel =>
      exact ⟨(fun z=>left z && !z.sameKey (kl y)),⟨_,HRG.out⟩,⟨_,Lib.hid (HR6.out.same (by first | exact List.Perm.refl _ | exact List.Perm.of_eq (List.append_nil _)))⟩,HL6⟩
     case measure =>
      rw [HM7.out,HM.out.2.1]
      exact HM.out.1
  ·have R3 : RowP w wr (Core F t bm fm) s _ L (B.map bare):=HL.out
   have t3:=HT.out.below (by rw [HSZ.out];exact R3.below)
   obtain ⟨D,hDo,hD⟩:=t3.mf
   have HDM:=Lib.hid hD
   have HR3:=Lib.hid R3
   have hbs : fm < s:=by rw [<- HSZ.out];exact HT.out.mf.lt
   have hsr:=R3.le
   clear HL t3 hD R3
   obtain ⟨w0,hw0⟩ : ∃ w0,w0 = wr:=⟨_,rfl⟩
   have HW0:=Lib.hid hw0
   clear hw0
   go_wp2_with (first | (at_range;refine wpList_range_own _ rfl _ 169 rfl 3 27 law3 Tryz.underlying169 hR fm U.length D rfl hDo ?_;intro w4 hrg4 hg4 hs4) | go_in)
   go_frame
   have HR4:=Lib.hid (HR3.out.under ⟨hg4.os,hg4.tape,hg4.output,hg4.size,fun b hb=>hg4.block b hb (by simp)⟩)
   have hd0 : doneE U (Maps.has D) = []:=done_start (fun p hp=>by rw [HDM.out.has];exact (isId_iff _ _).2 ⟨p,hp,rfl⟩)
   have HR4' : Hid (RowP w w4 (Core F t bm fm) s u3 L (doneE U (Maps.has D) ++ B.map bare)):=Lib.hid (by rw [hd0];exact HR4.out)
   clear HR3 HR4 hd0 hs4 hg4 hDo
   generalize wr.heap.size = r at *
   go_loopw [3] (fun vv wr'=>∃ (left : Lit -> Bool) (cnt : Nat) (L' : List Pt),wr'.ranges Tryz.prog 3 hR fm r U.length D left cnt /\ Hid (RowP w wr' (Core F t bm fm) s vv L' (doneE U left ++ B.map bare)) /\ Hid (∀ z,left z = true -> Maps.has D z = true)) (fun _ wr'=>wr'.rangeLeft fm r)
   case atStart=>exact ⟨_,_,L,hrg4,HR4',Lib.hid (fun _ h=>h)⟩
   case round =>
    obtain ⟨left,cnt,L',hrg,HRL,HL⟩:=hrel
    clear hrg4 HR4'
    go_wp2_with (at_next;refine wpList_next_ranges _ rfl _ rfl 3 law3 hR (Value.int .i64) id keyInv valInv fm r U.length D left cnt rfl hrg ?_ ?_)
    ·intro _ hl0
     have HRE:=Lib.hid HRL.out
     rw [done_end hl0] at HRE
     clear hrg hl0 HRL HL
     go_wp2_with fail
     go_roundw
     case rel=>exact ⟨1+1,L',by omega,by go_num,Lib.hid (HRE.out.same (by rw [List.map_append];exact List.perm_append_comm))⟩
     case measure=>simp [intOf]
    ·intro x c0 kl0 d0 p0 w5 cnt5 hk0 hlk hcv hat hrg5 hlt5 hg5 hs5 hen
     obtain ⟨x',ex,rfl,hwx⟩:=Maps.keyOf_int_inv Tryz.underlying3 hk0
     injection ex with _ ex
     subst ex
     have hid : isId x U = true:=by
      have:=HL.out _ hlk
      rw [show (Lit.int IntKind.i64 x) = kl x from rfl,HDM.out.has] at this
      exact this
     obtain ⟨⟨y,u,l⟩,hp,hpx⟩:=(isId_iff _ _).1 hid
     have hpx : y = x:=hpx
     subst hpx
     have hcu : u = c0:=by
      have h1:=HDM.out.at_ _ hp (.held (.slice none 0 0))
      have h2:=hat (.held (.slice none 0 0))
      have h3:=h1.symm.trans h2
      have h4:=hR_inj hcv
      exact DataW.held.inj (h3.trans h4)
     subst hcu
     have hvec:=HT.out.vec _ (List.mem_append_right B hp)
     obtain ⟨Au,cu,hu,_⟩:=hvec.reads
     change u = .slice Au l.length cu at hu
     subst hu
     have R5:=HRL.out.iter hg5 (by omega) (own_iter HRL.out.own (ranges_iter hrg))
     have hit5:=ranges_iter hrg5
     have hds:=done_step (left:=left) HT.out.mf.apart hp hlk
     have hle:=R5.le
     have hlen5 : L'.length <= 1000000000:=by
      rw [R5.len]
      have h1 : (doneE U left).length <= U.length:=by unfold doneE;rw [List.length_map];exact List.length_filter_le ..
      have h2:=HT.out.len
      simp
      omega
     have HR5:=Lib.hid R5
     have hown5:=R5.own
     have HM:=Lib.hid (And.intro hlt5 (And.intro hrg.left_eq hrg5.left_eq))
     have H5:=Lib.hid (And.intro hrg5 (And.intro hit5 (And.intro hds (And.intro hvec HL.out))))
     clear hid hcv hat hrg5 hit5 hg5 hs5 hlt5 hp hrg hk0 hwx HRL R5 hvec hlk HL hds
     go_wp2_with (at_builtin;refine append_pt rfl (.tmp 30) (.tmp 34) rfl s _ L'.length L' y Au l.length cu l rfl hown5 _ rfl rfl hlen5 hle ?_;intro v6 w6 hown6 hg6 hv6)
     have R6:=HR5.out.step hown6 hg6 H5.out.2.2.2.1
     have hrg6:=ranges_keep (w':=w6) H5.out.1 (hg6.block fm (by omega) (fun e=>by have:=HR5.out.own.lt fm e.symm;omega)) (hg6.block r (by
      obtain ⟨a1,a2,a3,a4,h5⟩:=H5.out.2.1
      exact (Array.getElem?_eq_some_iff.1 h5).1) (fun e=>own_iter HR5.out.own H5.out.2.1 e.symm))
     have HR6:=Lib.hid (R6.same (Y:=doneE U (fun z=>left z && !z.sameKey (kl y)) ++ B.map bare) (by
      refine List.Perm.trans ?_ (H5.out.2.2.1.symm.append_right _)
      exact List.Perm.refl _))
     have HL6:=Lib.hid (show ∀ z,(left z && !z.sameKey (kl y)) = true -> Maps.has D z = true from fun z hz=>H5.out.2.2.2.2 z (by
      cases hc : left z
      ·rw [hc] at hz
       cases hz
      ·rfl))
     have HM7:=Lib.hid hrg6.left_eq
     have HRG:=Lib.hid hrg6
     clear R6 hrg6 hown6 hg6 hv6 hown5
     go_wp2_with fail
     go_roundw
     case rel =>
      exact ⟨(fun z=>left z && !z.sameKey (kl y)),⟨_,HRG.out⟩,⟨_,Lib.hid (HR6.out.same (by first | exact List.Perm.refl _ | exact List.Perm.of_eq (List.append_nil _)))⟩,HL6⟩
     case measure =>
      rw [HM7.out,HM.out.2.1]
      exact HM.out.1
  ·have R3 : RowP w wr (Core F t bm fm) s _ L ((B ++ U).map bare):=HL.out
   have hLn : L.length <= 512:=by rw [R3.len];simpa using HTR.out.2.2
   obtain ⟨g,c,rfl⟩:=R3.form
   have hgl:=R3.own.lt g rfl
   have hca : L.length <= c /\ c <= maxLen:=by
    obtain ⟨A,c',e,h1,h2⟩:=own_shape R3.own
    injection e with _ _ e
    subst e
    exact ⟨h1,h2⟩
   have hH : HoldsK pcell 2 wr g 0 L.toArray:=holdsK_own (fun _=>rfl) (by have:=R3.own;simpa [pts] using this)
   have hsort:=sortP_any g 0 c L.toArray wr hH hgl.2 (by simp;omega)
   rw [show L.toArray.size = L.length by simp] at hsort
   have HF:=Lib.hid (And.intro R3 (And.intro hgl hca))
   clear HL R3 hgl hca hH
   go_wp2_with fail
   refine hsort.mono ?_
   rintro e w5 ⟨d',hd⟩
   obtain rfl:=hd.ret
   have HD:=Lib.hid hd
   clear hd hsort
   have hsz : d'.size = L.length:=by have:=HD.out.size;simpa using this
   have HSIZE:=Lib.hid hsz
   clear hsz
   go_wp2_with fail
   go_ret
   have hp : d'.toList.Perm L:=by simpa using HD.out.perm
   have R3:=HF.out.1
   refine ⟨g,c,d',by rw [HSIZE.out];rfl,by rw [HSIZE.out];exact HF.out.2.2.1,HF.out.2.2.2,by rw [HSZ.out];exact HF.out.2.1.1,Nat.lt_of_lt_of_le HF.out.2.1.2 HD.out.turn.size,HD.out.holds,?_,fun p hp'=>R3.vec p (hp.mem_iff.1 hp'),?_⟩
   ·exact rise_unique (sorted_map HD.out.rise) HTR.out.2.1 ((hp.map bareP).trans (R3.perm.trans HTR.out.1.symm))
   ·rw [HSZ.out]
    exact R3.below.trans (HD.out.turn.down (fun b hb=>by rw [hb];exact HF.out.2.1.1) R3.le)
end
end
end Go.Proofs.YtegjjhjgfkcbhaaGreatDoor
