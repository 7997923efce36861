/- Mem WKit WHits Small MemF SNum. Conditions: as each part says. -/
import Derived.Test.YtegjjhjgfkcbhaaGreatDoorQ09
import Derived.WalkKit
import Derived.WalkLawsBesides
import Derived.WalkSpells
import Derived.RegionTactic
import Derived.Below
import Derived.Laws.OwnMore
import Derived.Deep.AppendLies
import Derived.Deep.Draws
import Derived.OwnWalk
import Derived.Lib.OthersKept
import Derived.Maps.AppendAt
import Derived.BigQuiet
import Derived.Deep.QuietTactic
import Derived.LoopTactic
import Derived.Lib.LaidTab
import Derived.Lib.Hide
import Derived.Laws.IdiomStrings
import Derived.Laws.BitsAllLaws
import Derived.Laws.MakeOwn
import Derived.LaidEqlPtr
import Derived.BigRegion
set_option linter.unusedVariables false
set_option linter.unusedSimpArgs false
set_option maxRecDepth 100000
set_option maxHeartbeats 16000000
namespace Go.Proofs.YtegjjhjgfkcbhaaGreatDoor
section
open Go Go.RowKit
def Reads (w : World) (B size : Nat) (A : Option Addr) (n : Nat) (xs : List Value) : Prop :=
 xs.length = n * size /\ (0 < n -> ∃ ad,A = some ad /\ ad.block < B /\ ∀ j u,xs[j]? = some u -> w.cell? (ad.add j) = some u)
section
variable {w w' : World} {B B' size n : Nat} {A : Option Addr} {xs : List Value}
theorem Reads.none_ : Reads w B size A 0 []:=⟨by simp,fun h=>absurd h (by omega)⟩
theorem Reads.at_ {k : Nat} (h : Reads w B 1 A n xs) (hk : k < n) : ∃ ad u,A = some ad /\ ad.block < B /\ xs[k]? = some u /\ w.cell? (ad.add k) = some u:=by
 obtain ⟨ad,e,hb,hc⟩:=h.2 (by omega)
 have hl : k < xs.length:=by have:=h.1;omega
 exact ⟨ad,xs[k],e,hb,List.getElem?_eq_getElem hl,hc k _ (List.getElem?_eq_getElem hl)⟩
theorem Reads.keep (h : Reads w B size A n xs) (hk : ∀ p : Addr,p.block < B -> w'.cell? p = w.cell? p) : Reads w' B size A n xs :=
 ⟨h.1,fun hn=>by
  obtain ⟨ad,e,hb,hc⟩:=h.2 hn
  exact ⟨ad,e,hb,fun j u hu=>(hk _ (by rw [block_of_add];exact hb)).trans (hc j u hu)⟩⟩
theorem Reads.more (h : Reads w B size A n xs) (hB : B <= B') : Reads w B' size A n xs :=
 ⟨h.1,fun hn=>by
  obtain ⟨ad,e,hb,hc⟩:=h.2 hn
  exact ⟨ad,e,by omega,hc⟩⟩
theorem Reads.below (h : Reads w B size A n xs) (hb : Below B w w') : Reads w' B size A n xs:=h.keep fun _ hp=>hb.cell hp
theorem Reads.drew (h : Reads w B size A n xs) : Reads w.drew B size A n xs:=h
theorem Reads.drewN (h : Reads w B size A n xs) (k : Nat) : Reads (w.drewN k) B size A n xs:=h
theorem Reads.alloc (h : Reads w B size A n xs) (hB : B <= w.heap.size) (o : Obj) : Reads (w.alloc o) B size A n xs:=h.keep fun p hp=>World.cell?_alloc_lt w o p (by omega)
theorem Reads.setCell (h : Reads w B size A n xs) {p : Addr} (hB : B <= p.block) (u : Value) : Reads (w.setCell p u) B size A n xs :=
 h.keep fun q hq=>World.cell?_setCell_other w p q u (fun e=>by subst e;omega)
theorem Reads.cut (h : Reads w B size A n xs) {k cap : Nat} (hk : k <= n) (hc : n <= cap) :
  Reads w B size (if cap = k then A else A.map (·.add (k * size))) (n - k) (xs.drop (k * size)):=by
 refine ⟨by rw [List.length_drop,h.1,Nat.sub_mul],fun hn=>?_⟩
 obtain ⟨ad,rfl,hb,hcell⟩:=h.2 (by omega)
 rw [if_neg (by omega)]
 refine ⟨ad.add (k * size),rfl,by rw [block_of_add];exact hb,fun j u hu=>?_⟩
 rw [add_of_add]
 exact hcell _ u (by rw [<- hu,List.getElem?_drop])
theorem Reads.of_own {base : Nat} {e : TypeId} {c : Nat} (h : w.ownsRow base e size (.slice A n c) n xs) : Reads w w.heap.size size A n xs:=by
 refine ⟨h.1,fun hn=>?_⟩
 obtain ⟨g,cap,hv,_,hlt⟩:=h.form hn
 have hA : A = some ⟨g,0,none⟩:=by injection hv
 subst hA
 exact ⟨_,rfl,hlt,h.cells (g:=g) rfl⟩
end
theorem keep_none {w w' : World} {base : Nat} {e : TypeId} {size : Nat} {v : Value} {n : Nat} {xs : List Value} (h : w.ownsRow base e size v n xs) (hb : Below w.heap.size w w') : w'.ownsRow base e size v n xs :=
 h.kept (grown_below hb none) (by
  by_cases h : v.ownBlock = none
  ·exact .inl h
  ·exact .inr h)
def Box (w : World) (c : Nat) (T : TypeId) (v : Value) : Prop:=w.heap[c]? = some (.cells #[v] T (0,0))
section
variable {w w' : World} {c : Nat} {T : TypeId} {v : Value}
theorem Box.lt (h : Box w c T v) : c < w.heap.size:=(Array.getElem?_eq_some_iff.1 h).1
theorem Box.cell (h : Box w c T v) : w.cell? ⟨c,0,none⟩ = some v:=by
 unfold Box at h
 simp only [World.cell?,h]
 rfl
theorem Box.frozen (h : Box w c T v) : w.frozen? ⟨c,0,none⟩ = false:=by
 unfold Box at h
 simp only [World.frozen?,h]
 simp
theorem Box.set (h : Box w c T v) (u : Value) : Box (w.setCell ⟨c,0,none⟩ u) c T u:=by
 unfold Box at *
 simp only [World.setCell,Array.getElem?_modify,h]
 simp
theorem Box.below {B : Nat} (h : Box w c T v) (hb : Below B w w') (hB : c < B) : Box w' c T v:=(hb.block c hB).trans h
theorem Box.grown {row : Option Nat} (h : Box w c T v) (hg : w.grownBy w' row) (hne : some c ≠ row) : Box w' c T v:=(hg.block c h.lt hne).trans h
theorem Box.new (w : World) (T : TypeId) (v : Value) : Box (w.alloc (.cells #[v] T)) w.heap.size T v:=by
 show (w.heap.push _)[w.heap.size]? = _
 simp
end
theorem own_setCell {w : World} {base : Nat} {e : TypeId} {size : Nat} {v : Value} {n : Nat} {xs : List Value} (h : w.ownsRow base e size v n xs) {c : Nat} (ha : c < base) (u : Value) : (w.setCell ⟨c,0,none⟩ u).ownsRow base e size v n xs :=
 ownsRow_setCell_below h (a:=⟨c,0,none⟩) ha u
def Row (w : World) (g : Nat) (T : TypeId) (xs : List Value) : Prop:=w.heap[g]? = some (.cells xs.toArray T (0,0))
section
variable {w w' : World} {g : Nat} {T : TypeId} {xs : List Value}
theorem Row.lt (h : Row w g T xs) : g < w.heap.size:=(Array.getElem?_eq_some_iff.1 h).1
theorem Row.cell (h : Row w g T xs) {j : Nat} {u : Value} (hj : xs[j]? = some u) : w.cell? ⟨g,j,none⟩ = some u:=by
 unfold Row at h
 simp only [World.cell?,h]
 simpa using hj
theorem Row.frozen (h : Row w g T xs) (j : Nat) : w.frozen? ⟨g,j,none⟩ = false:=by
 unfold Row at h
 simp only [World.frozen?,h]
 simp
theorem Row.set (h : Row w g T xs) (j : Nat) (u : Value) : Row (w.setCell ⟨g,j,none⟩ u) g T (xs.set j u):=by
 unfold Row at *
 simp only [World.setCell,Array.getElem?_modify,h]
 simp
theorem Row.new (w : World) (T : TypeId) (xs : List Value) : Row (w.alloc (.cells xs.toArray T)) w.heap.size T xs:=by
 show (w.heap.push _)[w.heap.size]? = _
 simp
theorem Row.keep (h : Row w g T xs) (e : w'.heap[g]? = w.heap[g]?) : Row w' g T xs:=e.trans h
end
theorem Box.keep {w w' : World} {c : Nat} {T : TypeId} {v : Value} (h : Box w c T v) (e : w'.heap[c]? = w.heap[c]?) : Box w' c T v:=e.trans h
theorem heap_set_ne (w : World) (a : Addr) (u : Value) {b : Nat} (h : b ≠ a.block) : (w.setCell a u).heap[b]? = w.heap[b]?:=Below.heap_setCell w a u b h
theorem heap_alloc_lt (w : World) (o : Obj) {b : Nat} (h : b < w.heap.size) : (w.alloc o).heap[b]? = w.heap[b]?:=Below.heap_alloc w o b h
theorem own_keep {w w' : World} {base : Nat} {e : TypeId} {size : Nat} {v : Value} {n : Nat} {xs : List Value} (h : w.ownsRow base e size v n xs) (k : ∀ g,v.ownBlock = some g -> w'.heap[g]? = w.heap[g]?) : w'.ownsRow base e size v n xs:=by
 refine ⟨h.1,h.2.imp id fun ⟨g,cap,cur,hv,hb,hg,r⟩=>⟨g,cap,cur,hv,hb,?_,r⟩⟩
 rw [<- hg]
 exact k g (by rw [hv];rfl)
def strs (l : List ByteArray) : List Value:=l.map Value.string
theorem strs_get {l : List ByteArray} {j : Nat} (h : j < l.length) : (strs l)[j]? = some (.string (l.getD j ⟨#[]⟩)):=by
 unfold strs
 rw [List.getElem?_map,List.getD_eq_getElem?_getD,List.getElem?_eq_getElem h]
 rfl
theorem strs_set (l : List ByteArray) (j : Nat) (s : ByteArray) : (strs l).set j (.string s) = strs (l.set j s):=by
 unfold strs
 rw [List.map_set]
theorem made_strs (n : Nat) : madeCells #[.string ⟨#[]⟩] n = (strs (List.replicate n ⟨#[]⟩)).toArray:=by
 have h:=toList_madeCells_one (.string ⟨#[]⟩) n
 unfold strs
 rw [List.map_replicate,<- h,Array.toArray_toList]
def clo (c : Nat) : Value:=.func (.func 179) #[] #[.pointer (some ⟨c,0,none⟩),.pointer (some ⟨c + 1,0,none⟩)]
structure DkW (w : World) (F : Nat -> Prop) (d bn bs N : Nat) (v : Value) (nw su : List ByteArray) (L : List (Nat × Nat × ByteArray)) : Prop where
 box : w.heap[d]? = some (.cells #[.pointer (some ⟨d,0,none⟩),.slice (some ⟨bn,0,none⟩) N N,.slice (some ⟨bs,0,none⟩) N N,v] 111 (0,0))
 now : Row w bn 9 (strs nw)
 sure : Row w bs 9 (strs su)
 ln : nw.length = N
 ls : su.length = N
 own : w.ownsRow 0 119 1 v L.length (L.map fun p=>clo p.1)
 boxes : ∀ p ∈ L,Box w p.1 3 (.int .i64 (p.2.1 : Int)) /\ Box w (p.1 + 1) 9 (.string p.2.2) /\ p.2.1 < N /\ p.2.2.size <= 128
 e1 : d ≠ bn
 e2 : d ≠ bs
 e3 : bn ≠ bs
 ev : ∀ g,v.ownBlock = some g -> g ≠ d /\ g ≠ bn /\ g ≠ bs /\ ∀ p ∈ L,p.1 ≠ g /\ p.1 + 1 ≠ g
 eb : ∀ p ∈ L,p.1 ≠ d /\ p.1 ≠ bn /\ p.1 ≠ bs /\ p.1 + 1 ≠ d /\ p.1 + 1 ≠ bn /\ p.1 + 1 ≠ bs
 fd : F d
 fn : F bn
 fs : F bs
 fv : ∀ g,v.ownBlock = some g -> F g
 fb : ∀ p ∈ L,F p.1 /\ F (p.1 + 1)
 lt : ∀ b,F b -> b < w.heap.size
section
variable {w w' : World} {F : Nat -> Prop} {d bn bs N : Nat} {v : Value} {nw su : List ByteArray} {L : List (Nat × Nat × ByteArray)}
theorem DkW.keep (h : DkW w F d bn bs N v nw su L) (hk : ∀ b,F b -> w'.heap[b]? = w.heap[b]?) (hs : w.heap.size <= w'.heap.size) : DkW w' F d bn bs N v nw su L :=
 {h with
  box:=(hk d h.fd).trans h.box
  now:=h.now.keep (hk bn h.fn)
  sure:=h.sure.keep (hk bs h.fs)
  own:=own_keep h.own fun g hg=>hk g (h.fv g hg)
  boxes:=fun p hp=>⟨(h.boxes p hp).1.keep (hk _ (h.fb p hp).1),(h.boxes p hp).2.1.keep (hk _ (h.fb p hp).2),(h.boxes p hp).2.2⟩
  lt:=fun b hb=>by have:=h.lt b hb;omega }
theorem DkW.alloc (h : DkW w F d bn bs N v nw su L) (o : Obj) : DkW (w.alloc o) F d bn bs N v nw su L:=h.keep (fun b hb=>heap_alloc_lt w o (h.lt b hb)) (by simp)
theorem DkW.set (h : DkW w F d bn bs N v nw su L) {a : Addr} (ha : ¬ F a.block) (u : Value) : DkW (w.setCell a u) F d bn bs N v nw su L:=h.keep (fun b hb=>heap_set_ne w a u (fun e=>ha (e ▸ hb))) (by simp)
theorem DkW.drewN (h : DkW w F d bn bs N v nw su L) (q : Nat) : DkW (w.drewN q) F d bn bs N v nw su L:=h.keep (fun _ _=>rfl) (Nat.le_refl _)
theorem DkW.c0 (h : DkW w F d bn bs N v nw su L) : w.cell? ⟨d,0,none⟩ = some (.pointer (some ⟨d,0,none⟩)):=by simp [World.cell?,h.box]
theorem DkW.c1 (h : DkW w F d bn bs N v nw su L) : w.cell? ⟨d,1,none⟩ = some (.slice (some ⟨bn,0,none⟩) N N):=by simp [World.cell?,h.box]
theorem DkW.c2 (h : DkW w F d bn bs N v nw su L) : w.cell? ⟨d,2,none⟩ = some (.slice (some ⟨bs,0,none⟩) N N):=by simp [World.cell?,h.box]
theorem DkW.c3 (h : DkW w F d bn bs N v nw su L) : w.cell? ⟨d,3,none⟩ = some v:=by simp [World.cell?,h.box]
theorem DkW.z3 (h : DkW w F d bn bs N v nw su L) : w.frozen? ⟨d,3,none⟩ = false:=by simp [World.frozen?,h.box]
theorem DkW.setNow (h : DkW w F d bn bs N v nw su L) (k : Nat) (s : ByteArray) : DkW (w.setCell ⟨bn,k,none⟩ (.string s)) F d bn bs N v (nw.set k s) su L :=
 {h with
  box:=(heap_set_ne w _ _ h.e1).trans h.box
  now:=by have:=h.now.set k (.string s);rw [strs_set] at this;exact this
  sure:=h.sure.keep (heap_set_ne w _ _ h.e3.symm)
  ln:=by rw [List.length_set];exact h.ln
  own:=own_keep h.own fun g hg=>heap_set_ne w _ _ (h.ev g hg).2.1
  boxes:=fun p hp=>⟨(h.boxes p hp).1.keep (heap_set_ne w _ _ (h.eb p hp).2.1),(h.boxes p hp).2.1.keep (heap_set_ne w _ _ (h.eb p hp).2.2.2.2.1),(h.boxes p hp).2.2⟩
  lt:=fun b hb=>by have:=h.lt b hb;simpa using this }
theorem DkW.setSure (h : DkW w F d bn bs N v nw su L) (k : Nat) (s : ByteArray) : DkW (w.setCell ⟨bs,k,none⟩ (.string s)) F d bn bs N v nw (su.set k s) L :=
 {h with
  box:=(heap_set_ne w _ _ h.e2).trans h.box
  now:=h.now.keep (heap_set_ne w _ _ h.e3)
  sure:=by have:=h.sure.set k (.string s);rw [strs_set] at this;exact this
  ls:=by rw [List.length_set];exact h.ls
  own:=own_keep h.own fun g hg=>heap_set_ne w _ _ (h.ev g hg).2.2.1
  boxes:=fun p hp=>⟨(h.boxes p hp).1.keep (heap_set_ne w _ _ (h.eb p hp).2.2.1),(h.boxes p hp).2.1.keep (heap_set_ne w _ _ (h.eb p hp).2.2.2.2.2),(h.boxes p hp).2.2⟩
  lt:=fun b hb=>by have:=h.lt b hb;simpa using this }
theorem DkW.clear (h : DkW w F d bn bs N v nw su L) : DkW (w.setCell ⟨d,3,none⟩ (.slice none 0 0)) F d bn bs N (.slice none 0 0) nw su [] :=
 {box:=by simp [World.setCell,Array.getElem?_modify,h.box]
  now:=h.now.keep (heap_set_ne w _ _ h.e1.symm)
  sure:=h.sure.keep (heap_set_ne w _ _ h.e2.symm)
  ln:=h.ln
  ls:=h.ls
  own:=World.ownsRow_nil ..
  boxes:=fun p hp=>by simp at hp
  e1:=h.e1
  e2:=h.e2
  e3:=h.e3
  ev:=fun g hg=>by simp [Value.ownBlock] at hg
  eb:=fun p hp=>by simp at hp
  fd:=h.fd
  fn:=h.fn
  fs:=h.fs
  fv:=fun g hg=>by simp [Value.ownBlock] at hg
  fb:=fun p hp=>by simp at hp
  lt:=fun b hb=>by have:=h.lt b hb;simpa using this }
end
structure Turn (F : Nat -> Prop) (w : World) (F' : Nat -> Prop) (w' : World) : Prop where
 os : w'.os = w.os
 tape : w'.tape = w.tape
 output : w'.output = w.output
 size : w.heap.size <= w'.heap.size
 block : ∀ b,b < w.heap.size -> ¬ F b -> w'.heap[b]? = w.heap[b]?
 foot : ∀ b,F' b -> F b \/ w.heap.size <= b
section
variable {w w1 w2 : World} {F F1 F2 : Nat -> Prop}
theorem Turn.refl (F : Nat -> Prop) (w : World) : Turn F w F w:=⟨rfl,rfl,rfl,Nat.le_refl _,fun _ _ _=>rfl,fun _ h=>.inl h⟩
theorem Turn.trans (h : Turn F w F1 w1) (k : Turn F1 w1 F2 w2) : Turn F w F2 w2 :=
 ⟨k.os.trans h.os,k.tape.trans h.tape,k.output.trans h.output,Nat.le_trans h.size k.size,
  fun b hb hf=>(k.block b (Nat.lt_of_lt_of_le hb h.size) (fun hc=>(h.foot b hc).elim hf (by omega))).trans (h.block b hb hf),
  fun b hb=>(k.foot b hb).elim (fun hc=>h.foot b hc) (fun hc=>.inr (Nat.le_trans h.size hc))⟩
theorem Turn.set (F : Nat -> Prop) (w : World) {a : Addr} (ha : F a.block) (u : Value) : Turn F w F (w.setCell a u) :=
 ⟨rfl,rfl,rfl,by simp,fun b _ hf=>heap_set_ne w a u (fun e=>hf (e ▸ ha)),fun _ h=>.inl h⟩
theorem Turn.alloc (F : Nat -> Prop) (w : World) (o : Obj) : Turn F w F (w.alloc o):=⟨rfl,rfl,rfl,by simp,fun b hb _=>heap_alloc_lt w o hb,fun _ h=>.inl h⟩
theorem Turn.below (F : Nat -> Prop) (h : Below w.heap.size w w1) : Turn F w F w1:=⟨h.os,h.tape,h.output,h.size,fun b hb _=>h.block b hb,fun _ h=>.inl h⟩
theorem Turn.drewN (F : Nat -> Prop) (w : World) (q : Nat) : Turn F w F (w.drewN q):=⟨rfl,rfl,rfl,Nat.le_refl _,fun _ _ _=>rfl,fun _ h=>.inl h⟩
theorem Turn.down {B : Nat} (h : Turn F w F1 w1) (hF : ∀ b,F b -> B <= b) (hB : B <= w.heap.size) : Below B w w1 :=
 ⟨h.os,h.tape,h.output,h.size,fun b hb=>h.block b (by omega) (fun hf=>by have:=hF b hf;omega)⟩
theorem Turn.far {B : Nat} (h : Turn F w F1 w1) (hF : ∀ b,F b -> B <= b) (hB : B <= w.heap.size) : ∀ b,F1 b -> B <= b:=fun b hb=>(h.foot b hb).elim (hF b) (Nat.le_trans hB)
end
end
section
open Go Go.RowKit
def ints (l : List Int) : List Value:=l.map (Value.int .i64)
theorem ints_len (l : List Int) : (ints l).length = l.length:=by simp [ints]
theorem ints_one (l : List Int) : ∀ u ∈ ints l,u.oneCell' = true:=by
 intro u hu
 obtain ⟨x,_,rfl⟩:=List.mem_map.1 hu
 rfl
theorem Reads.int_at {w : World} {B n k : Nat} {A : Option Addr} {l : List Int} (h : Reads w B 1 A n (ints l)) (hk : k < n) :
  ∃ ad,A = some ad /\ ad.block < B /\ w.cell? (ad.add k) = some (.int .i64 (l.getD k 0)):=by
 obtain ⟨ad,u,e,hb,hx,hc⟩:=h.at_ hk
 refine ⟨ad,e,hb,?_⟩
 rw [hc]
 unfold ints at hx
 rw [List.getElem?_map] at hx
 obtain ⟨z,hz,rfl⟩:=Option.map_eq_some_iff.1 hx
 rw [List.getD_eq_getElem?_getD,hz]
 rfl
theorem Reads.len {w : World} {B n : Nat} {A : Option Addr} {l : List Int} (h : Reads w B 1 A n (ints l)) : n = l.length:=by
 have:=h.1
 rw [ints_len] at this
 omega
theorem wret_bool {b c : Bool} (h : b = c) : (Ending.returned (.bool b)) = .returned (.bool c):=by rw [h]
theorem int_row : (Tryz.prog.info? 3).map (fun i=>(i.zero,i.size,i.bytes)) = some (some (.int .i64 0),1,8):=by kernel_rfl
theorem append_int {ops : Array Oper} {rest : List Oper} {o : Oper} {a : Act} {Q : Exit -> Act -> World -> Prop} {W : World} (hgd : o.guard = none) (s x : Operand)
  (ho : o.op = .call { callee:=.builtin .append,args:=#[s,x],argTypes:=#[27,27] })
  (base : Nat) (v : Value) (n : Nat) (xs : List Value) (z : Int) (hs : a.eval s = v) (hown : W.ownsRow base 3 1 v n xs) (N : Nat) (hN : N = W.heap.size) (hx : a.eval x = .slice (some ⟨N,0,none⟩) 1 1)
  (hn : n <= 1000000) (hbase : base <= W.heap.size)
  (h : ∀ v' w',w'.ownsRow base 3 1 v' (n + 1) (xs ++ [.int .i64 z]) -> W.grownBy w' v.ownBlock -> wpList Tryz.prog ops Q rest (a.put o.dst v') w') :
  wpList Tryz.prog ops Q (o :: rest) a (W.alloc (.cells #[.int .i64 z] 3)):=by
 subst hN
 obtain ⟨i0,hi,hz0,hz1,hz2⟩:=info_parts int_row
 exact append_new hgd s x 27 3 3 ho base i0 (.int .i64 0) 1 8 Tryz.underlying27 hi hz0 hz1 hz2 rfl (by decide) (by decide) v n xs hs hown hx #[.int .i64 z] rfl (by intro u hu;simp at hu;subst hu;rfl) (by omega) hbase (fun v' w' a b _=>h v' w' a b)
section
variable {w w' : World} {base : Nat} {e : TypeId} {size : Nat}
theorem below_own {v : Value} {n : Nat} {xs : List Value} (h : w.ownsRow base e size v n xs) (hg : w.grownBy w' v.ownBlock) (hbase : base <= w.heap.size) : Below base w w' :=
 ⟨hg.os,hg.tape,hg.output,by have:=hg.size;omega,fun b hb=>hg.block b (by omega) (fun he=>by have:=(h.lt b he.symm).1;omega)⟩
end
end
section
open Go Go.RowKit
abbrev Hit:=Int × Int
def hcell (h : Hit) : List Value:=[.int .i64 h.1,.int .i64 h.2]
def hitV (h : Hit) : Value:=.agg #[.int .i64 h.1,.int .i64 h.2]
def hits (l : List Hit) : List Value:=l.flatMap hcell
theorem hits_len (l : List Hit) : (hits l).length = l.length * 2:=by
 induction l with
 | nil=>rfl
 | cons t r ih=>unfold hits at *;simp only [List.flatMap_cons,List.length_append,ih,hcell,List.length_cons,List.length_nil];omega
theorem hits_at (l : List Hit) (k : Nat) (hk : k < l.length) : (hits l)[2 * k]? = some (.int .i64 (l.getD k (0,0)).1) /\ (hits l)[2 * k + 1]? = some (.int .i64 (l.getD k (0,0)).2):=by
 induction l generalizing k with
 | nil=>simp at hk
 | cons t r ih =>
  have e : hits (t :: r) = .int .i64 t.1 :: .int .i64 t.2 :: hits r:=by simp [hits,hcell]
  rw [e]
  rcases k with _ | k
  ·simp
  ·have:=ih k (by simpa using hk)
   rw [show 2 * (k + 1) = 2 * k + 1 + 1 by omega]
   simpa using this
theorem hits_append (a b : List Hit) : hits (a ++ b) = hits a ++ hits b:=by simp [hits]
theorem hits_one (l : List Hit) : ∀ u ∈ hits l,u.oneCell' = true:=by
 intro u hu
 obtain ⟨x,_,h⟩:=List.mem_flatMap.1 hu
 simp [hcell] at h
 rcases h with rfl | rfl <;> rfl
theorem hits_take (l : List Hit) (k : Nat) : (hits l).take (2 * k) = hits (l.take k):=by
 induction l generalizing k with
 | nil=>simp [hits]
 | cons t r ih =>
  have e : hits (t :: r) = .int .i64 t.1 :: .int .i64 t.2 :: hits r:=by simp [hits,hcell]
  rcases k with _ | k
  ·simp [hits]
  ·rw [e,show 2 * (k + 1) = 2 * k + 1 + 1 by omega,List.take_succ_cons,List.take_succ_cons,ih]
   simp [hits,hcell]
theorem Reads.hits_len {w : World} {B n : Nat} {A : Option Addr} {l : List Hit} (h : Reads w B 2 A n (hits l)) : n = l.length:=by
 have:=h.1
 rw [YtegjjhjgfkcbhaaGreatDoor.hits_len] at this
 omega
theorem Reads.hit_at {w : World} {B n k : Nat} {A : Option Addr} {l : List Hit} (h : Reads w B 2 A n (hits l)) (hk : k < n) : ∃ ad,A = some ad /\ ad.block < B /\ k < l.length /\
  w.cell? (ad.add (k * 2)) = some (.int .i64 (l.getD k (0,0)).1) /\ w.cell? ⟨(ad.add (k * 2)).block,(ad.add (k * 2)).off + 1,none⟩ = some (.int .i64 (l.getD k (0,0)).2):=by
 have hl:=h.hits_len
 have hk' : k < l.length:=by omega
 obtain ⟨ad,e,hb,hc⟩:=h.2 (by omega)
 obtain ⟨t1,t2⟩:=hits_at l k hk'
 refine ⟨ad,e,hb,hk',?_,?_⟩
 ·rw [Nat.mul_comm]
  exact hc _ _ t1
 ·show w.cell? ((ad.add (k * 2)).add 1) = _
  rw [add_of_add,Nat.mul_comm]
  exact hc _ _ t2
def hlt (a b : Hit) : Bool:=decide (a.2 < b.2) || (a.2 == b.2 && decide (a.1 < b.1))
theorem hlt_iff (a b : Hit) : hlt a b = true ↔ a.2 < b.2 \/ (a.2 = b.2 /\ a.1 < b.1):=by unfold hlt;simp
theorem hlt_trans {a b c : Hit} (h : hlt a b = true) (k : hlt b c = true) : hlt a c = true:=by rw [hlt_iff] at *;omega
theorem hlt_asymm {a b : Hit} (h : hlt a b = true) : hlt b a = false:=by rw [Bool.eq_false_iff,Ne,hlt_iff];rw [hlt_iff] at h;omega
theorem hlt_total {a b : Hit} (h : hlt a b = false) (k : hlt b a = false) : a = b:=by
 rw [Bool.eq_false_iff,Ne,hlt_iff] at *
 exact Prod.ext (by omega) (by omega)
end
section
open Go Go.RowKit
section
variable {w w' : World} {F : Nat -> Prop} {d bn bs N : Nat} {v : Value} {nw su : List ByteArray} {L : List (Nat × Nat × ByteArray)}
theorem disk_row : (Tryz.prog.info? 111).map (fun i=>i.size) = some 4:=by kernel_rfl
theorem eql_self (d : Nat) (w : World) : (binOp .eql 36 (.pointer (some ⟨d,0,none⟩)) (.pointer (some ⟨d,0,none⟩))).run Tryz.prog w = .ok (.bool true) w:=by
 obtain ⟨i,hi,_⟩:=Option.map_eq_some_iff.1 disk_row
 exact run_eql_ptr_same w _ Tryz.underlying36 hi
theorem given_any (h : DkW w F d bn bs N v nw su L) : Calls Tryz.prog 57 #[.pointer (some ⟨d,0,none⟩)] w fun e w'=>e = .returned (.bool true) /\ ∃ q,w' = w.drewN q:=by
 have hc:=h.c0
 have hl:=h.lt d h.fd
 have he:=eql_self d w
 clear h
 go_enter Tryz.func57,Tryz.ntmps57
 go_wp2
 go_ret
 exact ⟨rfl,0,rfl⟩
theorem blocks_any (h : DkW w F d bn bs N v nw su L) : Calls Tryz.prog 89 #[.pointer (some ⟨d,0,none⟩)] w fun e w'=>e = .returned (.int .i64 (N : Int)) /\ ∃ q,w' = w.drewN q:=by
 have hg:=given_any h
 go_enter Tryz.func89,Tryz.ntmps89
 go_wp2_with fail
 refine hg.mono ?_
 rintro e w1 ⟨rfl,q,rfl⟩
 have hc:=(h.drewN q).c1
 have hl:=(h.drewN q).lt d h.fd
 clear h hg
 go_wp2
 go_ret
 exact ⟨rfl,_,rfl⟩
theorem loose_any (h : DkW w F d bn bs N v nw su L) : Calls Tryz.prog 95 #[.pointer (some ⟨d,0,none⟩)] w fun e w'=>e = .returned (.int .i64 (L.length : Int)) /\ ∃ q,w' = w.drewN q:=by
 have hg:=given_any h
 obtain ⟨A,c,rfl,hn,hc⟩:=own_shape h.own
 go_enter Tryz.func95,Tryz.ntmps95
 go_wp2_with fail
 refine hg.mono ?_
 rintro e w1 ⟨rfl,q,rfl⟩
 have hc:=(h.drewN q).c3
 have hl:=(h.drewN q).lt d h.fd
 clear h hg
 go_wp2
 go_ret
 exact ⟨rfl,_,rfl⟩
theorem has_yes (h : DkW w F d bn bs N v nw su L) (k : Nat) (hk : k < N) : Calls Tryz.prog 178 #[.pointer (some ⟨d,0,none⟩),.int .i64 (k : Int)] w fun e w'=>e = .returned (.bool true) /\ ∃ q,w' = w.drewN q:=by
 have hg:=blocks_any h
 have hkz : (k : Int) < (N : Int):=by omega
 go_enter Tryz.func178,Tryz.ntmps178
 go_wp2_with fail
 refine hg.mono ?_
 rintro e w1 ⟨rfl,q,rfl⟩
 clear h hg
 go_wp2
 go_ret
 exact ⟨rfl,_,rfl⟩
end
def shr (n : Int) (all : Nat) : Nat:=n.toNat % (all + 1)
theorem shr_le (n : Int) (all : Nat) : shr n all <= all:=by
 have:=Nat.mod_lt n.toNat (show 0 < all + 1 by omega)
 unfold shr
 omega
theorem share_any (n : Int) (all : Nat) (h1 : -9223372036854775808 <= n) (h2 : n <= 9223372036854775807) (ha : all <= 1000000) (w : World) : Calls Tryz.prog 58 #[.int .i64 n,.int .i64 (all : Int)] w fun e w'=>e = .returned (.int .i64 (shr n all : Int)) /\ w = w':=by
 by_cases h0 : n < 0
 ·have hr : shr n all = 0:=by unfold shr;rw [show n.toNat = 0 by omega,Nat.zero_mod]
  rw [hr]
  go_enter Tryz.func58,Tryz.ntmps58
  go_wp2
  go_ret
  exact ⟨rfl,rfl⟩
 ·obtain ⟨m,rfl⟩ : ∃ m : Nat,n = m:=⟨n.toNat,by omega⟩
  have hr : shr (m : Int) all = m % (all + 1):=rfl
  have hlt:=shr_le (m : Int) all
  rw [hr] at hlt
  have HR:=Lib.hid hr
  clear hr
  generalize shr (m : Int) all = r at *
  go_enter Tryz.func58,Tryz.ntmps58
  go_wp2
  go_ret
  exact ⟨by rw [HR.out];push_cast;rfl,rfl⟩
def tearB (s had : ByteArray) (k : Nat) : ByteArray:=s.extract 0 k ++ had.extract (min k had.size) had.size
theorem tearB_over {s had : ByteArray} {k : Nat} (h : had.size < k) : tearB s had k = s.extract 0 k:=by
 unfold tearB
 rw [Nat.min_eq_right (by omega)]
 simp
theorem tearB_in {s had : ByteArray} {k : Nat} (h : ¬ had.size < k) : tearB s had k = s.extract 0 k ++ had.extract k had.size:=by
 unfold tearB
 rw [Nat.min_eq_left (by omega)]
theorem tear_any (s had : ByteArray) (k : Nat) (hk : k <= s.size) (hs : s.size <= 1000000) (hh : had.size <= 1000000) (w : World) : Calls Tryz.prog 61 #[.string s,.string had,.int .i64 (k : Int)] w fun e w'=>e = .returned (.string (tearB s had k)) /\ ∃ q,w' = w.drewN q:=by
 by_cases h : had.size < k
 ·rw [tearB_over h]
  go_enter Tryz.func61,Tryz.ntmps61
  go_wp2
  go_quiet (fail)
  go_wp2
  go_ret
  exact ⟨rfl,_,rfl⟩
 ·rw [tearB_in h]
  go_enter Tryz.func61,Tryz.ntmps61
  go_wp2
  go_quiet (fail)
  go_wp2
  go_ret
  exact ⟨rfl,_,rfl⟩
end
section
open Go Go.RowKit
section
variable {w w' : World} {B B' size n : Nat} {A : Option Addr} {xs : List Value}
end
def strL (ls : List (List UInt8)) : List Value:=ls.map fun l=>.string ⟨l.toArray⟩
theorem strL_len (ls : List (List UInt8)) : (strL ls).length = ls.length:=by simp [strL]
theorem strL_snoc (ls : List (List UInt8)) (l : List UInt8) : strL ls ++ [.string ⟨l.toArray⟩] = strL (ls ++ [l]):=by simp [strL]
theorem strL_one (ls : List (List UInt8)) : ∀ u ∈ strL ls,u.oneCell' = true:=by
 intro u hu
 obtain ⟨x,_,rfl⟩:=List.mem_map.1 hu
 rfl
theorem reads_len {w : World} {B n : Nat} {A : Option Addr} {ws : List (List UInt8)} (h : Reads w B 1 A n (strL ws)) : n = ws.length:=by
 have:=h.1
 rw [strL_len] at this
 omega
theorem reads_str {w : World} {B n k : Nat} {A : Option Addr} {ws : List (List UInt8)} (h : Reads w B 1 A n (strL ws)) (hk : k < n) :
  ∃ ad,A = some ad /\ ad.block < B /\ w.cell? (ad.add k) = some (.string ⟨(ws.getD k []).toArray⟩):=by
 obtain ⟨ad,u,e,hb,hx,hc⟩:=h.at_ hk
 refine ⟨ad,e,hb,?_⟩
 rw [hc]
 unfold strL at hx
 rw [List.getElem?_map] at hx
 obtain ⟨z,hz,rfl⟩:=Option.map_eq_some_iff.1 hx
 rw [List.getD_eq_getElem?_getD,hz]
 rfl
section
variable {w w' : World} {c : Nat} {T : TypeId} {v : Value}
end
theorem string_row : (Tryz.prog.info? 9).map (fun i=>(i.zero,i.size,i.bytes)) = some (some (.string ⟨#[]⟩),1,16):=by kernel_rfl
theorem append_str {ops : Array Oper} {rest : List Oper} {o : Oper} {a : Act} {Q : Exit -> Act -> World -> Prop} {W : World} (hgd : o.guard = none) (s x : Operand)
  (ho : o.op = .call { callee:=.builtin .append,args:=#[s,x],argTypes:=#[108,108] })
  (base : Nat) (v : Value) (n : Nat) (xs : List Value) (z : ByteArray) (hs : a.eval s = v) (hown : W.ownsRow base 9 1 v n xs) (N : Nat) (hN : N = W.heap.size) (hx : a.eval x = .slice (some ⟨N,0,none⟩) 1 1)
  (hn : n <= 1000000) (hbase : base <= W.heap.size)
  (h : ∀ v' w',w'.ownsRow base 9 1 v' (n + 1) (xs ++ [.string z]) -> W.grownBy w' v.ownBlock -> wpList Tryz.prog ops Q rest (a.put o.dst v') w') :
  wpList Tryz.prog ops Q (o :: rest) a (W.alloc (.cells #[.string z] 9)):=by
 subst hN
 obtain ⟨i0,hi,hz0,hz1,hz2⟩:=info_parts string_row
 exact append_new hgd s x 108 9 9 ho base i0 (.string ⟨#[]⟩) 1 16 Tryz.underlying108 hi hz0 hz1 hz2 rfl (by decide) (by decide) v n xs hs hown hx #[.string z] rfl (by intro u hu;simp at hu;subst hu;rfl) (by omega) hbase (fun v' w' a b _=>h v' w' a b)
end
section
open Go Go.RowKit
def idxs (kd : Int) : List Nat:=if kd = 1 then [1,2,3,4,5] else if kd = 3 then [1,2,3] else if kd = 4 \/ kd = 5 then [6,7] else []
def idxP (X : Nat) (kd : Int) : List Value:=(idxs kd).map fun j=>.pointer (some ⟨X,j,none⟩)
def NumsPost (X : Nat) (kd : Int) (w : World) (e : Ending) (w' : World) : Prop:=∃ A n c,e = .returned (.slice A n c) /\ n = (idxs kd).length /\ Reads w' w'.heap.size 1 A n (idxP X kd) /\ (∀ ad,A = some ad -> w.heap.size <= ad.block) /\ Below w.heap.size w w'
theorem lit_reads (w : World) (T : TypeId) (xs : List Value) (n : Nat) (hn : xs.length = n) : Reads (w.alloc (.cells xs.toArray T)) (w.alloc (.cells xs.toArray T)).heap.size 1 (some ⟨w.heap.size,0,none⟩) n xs:=by
 refine ⟨by omega,fun _=>⟨_,rfl,by simp,fun j u hj=>?_⟩⟩
 rw [add_flat,Nat.zero_add]
 exact (Row.new w T xs).cell hj
theorem NumsPost.mk {X : Nat} {kd : Int} {w w1 w2 : World} {T : TypeId} {e : Ending} (xs : List Value) (hx : idxP X kd = xs) (n : Nat) (hn : xs.length = n) (hb : Below w.heap.size w w1) (q : Nat) (hw : w2 = (w1.alloc (.cells xs.toArray T)).drewN q) (he : e = .returned (.slice (some ⟨w1.heap.size,0,none⟩) n n)) : NumsPost X kd w e w2:=by
 subst hw
 have hl : (idxs kd).length = n:=by rw [<- hn,<- hx];simp [idxP]
 refine ⟨_,n,_,he,hl.symm,?_,fun ad h=>by cases h;exact hb.size,below_drewN (hb.alloc hb.size _) q⟩
 rw [hx]
 exact (lit_reads w1 T xs n hn).drewN q
theorem nums_any {w : World} {X : Nat} {kd : Int} {v1 v2 v3 v4 v5 v6 v7 v8 v9 : Value} (h : Row w X 107 [.int .i64 kd,v1,v2,v3,v4,v5,v6,v7,v8,v9]) : Calls Tryz.prog 131 #[.pointer (some ⟨X,0,none⟩)] w (NumsPost X kd w):=by
 have c0 : w.cell? ⟨X,0,none⟩ = some (.int .i64 kd):=h.cell rfl
 have hl:=h.lt
 clear h
 by_cases h1 : kd = 1
 ·subst h1
  go_enter Tryz.func131,Tryz.ntmps131
  go_wp2_with fail
  go_region
  all_goals go_wp2_with fail
  all_goals go_ret
  exact NumsPost.mk [.pointer (some ⟨X,1,none⟩),.pointer (some ⟨X,2,none⟩),.pointer (some ⟨X,3,none⟩),.pointer (some ⟨X,4,none⟩),.pointer (some ⟨X,5,none⟩)] rfl 5 rfl (Below.refl _ _) 1 rfl rfl
 ·by_cases h3 : kd = 3
  ·subst h3
   go_enter Tryz.func131,Tryz.ntmps131
   go_wp2_with fail
   go_region
   all_goals go_wp2_with fail
   all_goals go_ret
   exact NumsPost.mk [.pointer (some ⟨X,1,none⟩),.pointer (some ⟨X,2,none⟩),.pointer (some ⟨X,3,none⟩)] rfl 3 rfl (Below.refl _ _) 1 rfl rfl
  ·by_cases h4 : kd = 4
   ·subst h4
    go_enter Tryz.func131,Tryz.ntmps131
    go_wp2_with fail
    go_region
    all_goals go_wp2_with fail
    all_goals go_ret
    exact NumsPost.mk [.pointer (some ⟨X,6,none⟩),.pointer (some ⟨X,7,none⟩)] rfl 2 rfl (Below.refl _ _) 1 rfl rfl
   ·by_cases h5 : kd = 5
    ·subst h5
     go_enter Tryz.func131,Tryz.ntmps131
     go_wp2_with fail
     go_region
     all_goals go_wp2_with fail
     all_goals go_ret
     exact NumsPost.mk [.pointer (some ⟨X,6,none⟩),.pointer (some ⟨X,7,none⟩)] rfl 2 rfl (Below.refl _ _) 1 rfl rfl
    ·have e : idxs kd = []:=by simp [idxs,h1,h3,h4,h5]
     go_enter Tryz.func131,Tryz.ntmps131
     go_wp2_with fail
     go_ret
     exact ⟨none,0,0,rfl,by rw [e];rfl,by unfold idxP;rw [e];exact Reads.none_,fun ad h=>absurd h (by simp),Below.refl _ _⟩
end
end Go.Proofs.YtegjjhjgfkcbhaaGreatDoor
