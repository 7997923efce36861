/- BMath BMem BMathB. Conditions: as each part says. -/
import Derived.Lib.ItoaNum
import Derived.Below
import Derived.Laws.OwnMore
import Derived.Deep.AppendLies
import Derived.Deep.Draws
import Derived.OwnWalk
import Derived.Lib.OthersKept
import Derived.Maps.AppendAt
import Derived.RegionTactic
set_option linter.unusedVariables false
set_option linter.unusedSimpArgs false
set_option maxRecDepth 100000
set_option maxHeartbeats 16000000
namespace Go.Proofs.YtegjjhjgfkcbhaaGreatDoor
namespace Be
section
open Go
inductive T where
 | mk (k n : Int) (s : ByteArray) (l : List T)
def T.k : T -> Int | .mk k _ _ _=>k
def T.n : T -> Int | .mk _ n _ _=>n
def T.s : T -> ByteArray | .mk _ _ s _=>s
def T.l : T -> List T | .mk _ _ _ l=>l
mutual
def enc : T -> List UInt8
 | .mk k n s l=>if k = 1 then 105 :: (Lib.itoa n ++ [101]) else if k = 2 then Lib.itoa s.size ++ 58 :: s.data.toList else if k = 3 then 108 :: (encL l ++ [101]) else []
def encL : List T -> List UInt8
 | []=>[]
 | t :: ts=>enc t ++ encL ts
end
mutual
def kindsOk : T -> Bool
 | .mk k _ _ l=>decide (k = 1) || decide (k = 2) || (decide (k = 3) && kindsOkL l)
def kindsOkL : List T -> Bool
 | []=>true
 | t :: ts=>kindsOk t && kindsOkL ts
end
mutual
def deepT : T -> Nat
 | .mk k _ _ l=>if k = 3 then deepL l + 1 else 0
def deepL : List T -> Nat
 | []=>0
 | t :: ts=>max (deepT t) (deepL ts)
end
mutual
def tidy : T -> T
 | .mk k n s l=>if k = 1 then .mk 1 n .empty [] else if k = 2 then .mk 2 0 s [] else .mk k 0 .empty (tidyL l)
def tidyL : List T -> List T
 | []=>[]
 | t :: ts=>tidy t :: tidyL ts
end
mutual
def wfT : T -> Bool
 | .mk k n _ l=>decide (-9223372036854775808 <= n /\ n <= 9223372036854775807) && decide (-9223372036854775808 <= k /\ k <= 9223372036854775807) && wfL l
def wfL : List T -> Bool
 | []=>true
 | t :: ts=>wfT t && wfL ts
end
mutual
def cleanT : T -> Bool
 | .mk k n s l=>(decide (k = 1) || decide (n = 0)) && (decide (k = 2) || decide (s.size = 0)) && (decide (k = 3) || l.isEmpty) && cleanL l
def cleanL : List T -> Bool
 | []=>true
 | t :: ts=>cleanT t && cleanL ts
end
/-! ## Reading -/
def isDig (c : UInt8) : Bool:=decide (48 <= c.toNat) && decide (c.toNat <= 57)
def dg (most : Nat) (stop : UInt8) (over : Int) : Bool -> Nat -> List UInt8 -> Except Int (Nat × Nat)
 | _,_,[]=>.error 21
 | first,m,c :: r =>
  if c = stop /\ first = false then .ok (m,1)
  else if isDig c = false \/ (first = false /\ m = 0) then .error 20
  else if most < 10 * m + (c.toNat - 48) then .error over
  else match dg most stop over false (10 * m + (c.toNat - 48)) r with
   | .error e=>.error e
   | .ok (n,k)=>.ok (n,k + 1)
def rdNum (r : List UInt8) : Except Int (T × Nat) :=
 match r with
 | 45 :: r'=>if r'.head? = some 48 then .error 20 else
  match dg 9223372036854775808 101 20 true 0 r' with
  | .error e=>.error e
  | .ok (m,n)=>.ok (.mk 1 (-(m : Int)) .empty [],n + 2)
 | r=>match dg 9223372036854775807 101 20 true 0 r with
  | .error e=>.error e
  | .ok (m,n)=>.ok (.mk 1 m .empty [],n + 1)
def rdText (bs : List UInt8) : Except Int (T × Nat) :=
 match dg 65536 58 23 true 0 bs with
 | .error e=>.error e
 | .ok (n,k)=>if (bs.drop k).length < n then .error 21 else .ok (.mk 2 0 ⟨((bs.drop k).take n).toArray⟩ [],k + n)
mutual
def rd (bs : List UInt8) (w : Nat) : Except Int (T × Nat) :=
 match bs with
 | []=>.error 21
 | c :: r =>
  if c = 105 then rdNum r
  else if isDig c = true then rdText (c :: r)
  else if c = 108 then
   if 8 <= w then .error 22 else
    match rdL r (w + 1) with
    | .error e=>.error e
    | .ok (ts,n)=>.ok (.mk 3 0 .empty ts,n + 1)
  else .error 20
termination_by (bs.length,0)
def rdL (bs : List UInt8) (w : Nat) : Except Int (List T × Nat) :=
 match bs with
 | []=>.error 21
 | c :: r =>
  if c = 101 then .ok ([],1) else
   match rd (c :: r) w with
   | .error e=>.error e
   | .ok (t,n) =>
    match rdL (r.drop (n - 1)) w with
    | .error e=>.error e
    | .ok (ts,m)=>.ok (t :: ts,n + m)
termination_by (bs.length,1)
decreasing_by
 ·exact Prod.Lex.right _ (by decide)
 ·exact Prod.Lex.left _ _ (by simp;omega)
end
end
end Be
namespace Be
section
open Go Go.RowKit
theorem block_of_add (a : Addr) (n : Nat) : (a.add n).block = a.block:=by unfold Addr.add;split <;> rfl
theorem add_of_add (a : Addr) (i j : Nat) : (a.add i).add j = a.add (i + j):=by
 unfold Addr.add
 by_cases hi : i = 0 <;> by_cases hj : j = 0 <;> simp [hi,hj,Nat.add_assoc]
theorem add_flat (b i j : Nat) : (⟨b,i,none⟩ : Addr).add j = ⟨b,i + j,none⟩:=by
 unfold Addr.add
 split
 ·simp_all
 ·rfl
structure ReadsP (ok : Nat -> Prop) (w : World) (size : Nat) (A : Option Addr) (n : Nat) (xs : List Value) : Prop where
 len : xs.length = n * size
 at_ : 0 < n -> ∃ ad,A = some ad /\ ok ad.block /\ ad.block < w.heap.size /\ w.frozen? ad = false /\ ∀ j u,xs[j]? = some u -> w.cell? (ad.add j) = some u
def Keeps (ok : Nat -> Prop) (w w' : World) : Prop:=w.heap.size <= w'.heap.size /\ ∀ b,ok b -> b < w.heap.size -> w'.heap[b]? = w.heap[b]?
theorem Keeps.refl (ok : Nat -> Prop) (w : World) : Keeps ok w w:=⟨Nat.le_refl _,fun _ _ _=>rfl⟩
theorem Keeps.trans {ok : Nat -> Prop} {a b c : World} (h : Keeps ok a b) (k : Keeps ok b c) : Keeps ok a c:=⟨Nat.le_trans h.1 k.1,fun i hi hl=>(k.2 i hi (Nat.lt_of_lt_of_le hl h.1)).trans (h.2 i hi hl)⟩
theorem Keeps.of_below {ok : Nat -> Prop} {B : Nat} {w w' : World} (h : Below B w w') (hok : ∀ b,ok b -> b < w.heap.size -> b < B) : Keeps ok w w':=⟨h.size,fun b hb hl=>h.block b (hok b hb hl)⟩
theorem Keeps.of_grown {ok : Nat -> Prop} {row : Option Nat} {w w' : World} (h : w.grownBy w' row) (hok : ∀ b,ok b -> some b ≠ row) : Keeps ok w w':=⟨h.size,fun b hb hl=>h.block b hl (hok b hb)⟩
theorem ReadsP.keep {ok : Nat -> Prop} {w w' : World} {size n : Nat} {A : Option Addr} {xs : List Value} (h : ReadsP ok w size A n xs) (k : Keeps ok w w') : ReadsP ok w' size A n xs :=
 ⟨h.len,fun hn=>by
  obtain ⟨ad,e,hb,hlt,hf,hc⟩:=h.at_ hn
  have hk:=k.2 _ hb hlt
  refine ⟨ad,e,hb,Nat.lt_of_lt_of_le hlt k.1,?_,fun j u hj=>?_⟩
  ·rw [World.frozen?_of_block (w:=w) hk];exact hf
  ·rw [World.cell?_of_block (w:=w) (by rw [block_of_add];exact hk)];exact hc j u hj⟩
theorem ReadsP.mono {ok ok' : Nat -> Prop} {w : World} {size n : Nat} {A : Option Addr} {xs : List Value} (h : ReadsP ok w size A n xs) (k : ∀ b,ok b -> b < w.heap.size -> ok' b) : ReadsP ok' w size A n xs :=
 ⟨h.len,fun hn=>by
  obtain ⟨ad,e,hb,hlt,hf,hc⟩:=h.at_ hn
  exact ⟨ad,e,k _ hb hlt,hlt,hf,hc⟩⟩
theorem ReadsP.none_ {ok : Nat -> Prop} {w : World} {size : Nat} {A : Option Addr} : ReadsP ok w size A 0 []:=⟨by simp,fun h=>absurd h (by omega)⟩
mutual
def Rd (ok : Nat -> Prop) (w : World) : T -> List Value -> Prop
 | .mk k n s l,cs=>∃ A c xs,cs = [.int .i64 k,.int .i64 n,.string s,.slice A l.length c] /\ s.size <= maxLen /\ l.length <= c /\ c <= maxLen /\ ReadsP ok w 4 A l.length xs /\ RdL ok w l xs
def RdL (ok : Nat -> Prop) (w : World) : List T -> List Value -> Prop
 | [],xs=>xs = []
 | t :: ts,xs=>∃ cs xs',xs = cs ++ xs' /\ Rd ok w t cs /\ RdL ok w ts xs'
end
mutual
theorem Rd.keep {ok : Nat -> Prop} {w w' : World} (k : Keeps ok w w') : ∀ (t : T) (cs : List Value),Rd ok w t cs -> Rd ok w' t cs
 | .mk _ _ _ l,cs,h=>by
  rw [Rd] at h ⊢
  obtain ⟨A,c,xs,h1,h2,h3,h4,h5,h6⟩:=h
  exact ⟨A,c,xs,h1,h2,h3,h4,h5.keep k,RdL.keep k l xs h6⟩
theorem RdL.keep {ok : Nat -> Prop} {w w' : World} (k : Keeps ok w w') : ∀ (l : List T) (xs : List Value),RdL ok w l xs -> RdL ok w' l xs
 | [],xs,h=>by rw [RdL] at h ⊢;exact h
 | t :: ts,xs,h=>by
  rw [RdL] at h ⊢
  obtain ⟨cs,xs',h1,h2,h3⟩:=h
  exact ⟨cs,xs',h1,Rd.keep k t cs h2,RdL.keep k ts xs' h3⟩
end
mutual
theorem Rd.mono {ok ok' : Nat -> Prop} {w : World} (k : ∀ b,ok b -> b < w.heap.size -> ok' b) : ∀ (t : T) (cs : List Value),Rd ok w t cs -> Rd ok' w t cs
 | .mk _ _ _ l,cs,h=>by
  rw [Rd] at h ⊢
  obtain ⟨A,c,xs,h1,h2,h3,h4,h5,h6⟩:=h
  exact ⟨A,c,xs,h1,h2,h3,h4,h5.mono k,RdL.mono k l xs h6⟩
theorem RdL.mono {ok ok' : Nat -> Prop} {w : World} (k : ∀ b,ok b -> b < w.heap.size -> ok' b) : ∀ (l : List T) (xs : List Value),RdL ok w l xs -> RdL ok' w l xs
 | [],xs,h=>by rw [RdL] at h ⊢;exact h
 | t :: ts,xs,h=>by
  rw [RdL] at h ⊢
  obtain ⟨cs,xs',h1,h2,h3⟩:=h
  exact ⟨cs,xs',h1,Rd.mono k t cs h2,RdL.mono k ts xs' h3⟩
end
theorem Rd.four {ok : Nat -> Prop} {w : World} {t : T} {cs : List Value} (h : Rd ok w t cs) : cs.length = 4:=by
 cases t
 rw [Rd] at h
 obtain ⟨A,c,xs,rfl,_⟩:=h
 rfl
theorem RdL.len {ok : Nat -> Prop} {w : World} : ∀ {l : List T} {xs : List Value},RdL ok w l xs -> xs.length = l.length * 4
 | [],xs,h=>by rw [RdL] at h;subst h;rfl
 | t :: ts,xs,h=>by
  rw [RdL] at h
  obtain ⟨cs,xs',rfl,h2,h3⟩:=h
  have:=RdL.len h3
  have:=h2.four
  simp;omega
theorem RdL.get {ok : Nat -> Prop} {w : World} : ∀ {l : List T} {xs : List Value} {i : Nat},RdL ok w l xs -> (hi : i < l.length) -> ∃ cs,Rd ok w l[i] cs /\ ∀ j,j < 4 -> xs[i * 4 + j]? = cs[j]?
 | t :: ts,xs,0,h,_=>by
  rw [RdL] at h
  obtain ⟨cs,xs',rfl,h2,h3⟩:=h
  refine ⟨cs,h2,fun j hj=>?_⟩
  rw [List.getElem?_append_left (by rw [h2.four];omega)]
  simp
 | t :: ts,xs,i + 1,h,hi=>by
  rw [RdL] at h
  obtain ⟨cs,xs',rfl,h2,h3⟩:=h
  obtain ⟨ds,h4,h5⟩:=RdL.get h3 (by simp at hi;omega : i < ts.length)
  refine ⟨ds,h4,fun j hj=>?_⟩
  rw [List.getElem?_append_right (by rw [h2.four];omega),h2.four,show (i + 1) * 4 + j - 4 = i * 4 + j by omega]
  exact h5 j hj
theorem RdL.snoc {ok : Nat -> Prop} {w : World} {t : T} {cs : List Value} (ht : Rd ok w t cs) : ∀ {l : List T} {xs : List Value},RdL ok w l xs -> RdL ok w (l ++ [t]) (xs ++ cs)
 | [],xs,h=>by
  rw [RdL] at h
  subst h
  exact ⟨cs,[],by simp,ht,rfl⟩
 | u :: us,xs,h=>by
  rw [RdL] at h
  obtain ⟨ds,xs',rfl,h2,h3⟩:=h
  rw [List.cons_append,RdL]
  exact ⟨ds,xs' ++ cs,by simp,h2,RdL.snoc ht h3⟩
theorem RdL.drop {ok : Nat -> Prop} {w : World} : ∀ {l : List T} {xs : List Value} (i : Nat),RdL ok w l xs -> RdL ok w (l.drop i) (xs.drop (i * 4))
 | l,xs,0,h=>by simpa using h
 | [],xs,i + 1,h=>by
  rw [RdL] at h
  subst h
  simp [RdL]
 | t :: ts,xs,i + 1,h=>by
  rw [RdL] at h
  obtain ⟨cs,xs',rfl,h2,h3⟩:=h
  have e : (cs ++ xs').drop ((i + 1) * 4) = xs'.drop (i * 4):=by
   have:=h2.four
   rw [List.drop_append,List.drop_eq_nil_of_le (as:=cs) (by omega),List.nil_append,this,show (i + 1) * 4 - 4 = i * 4 by omega]
  rw [List.drop_succ_cons,e]
  exact RdL.drop i h3
mutual
theorem Rd.one {ok : Nat -> Prop} {w : World} : ∀ (t : T) (cs : List Value),Rd ok w t cs -> ∀ u ∈ cs,u.oneCell' = true
 | .mk k n s l,cs,h=>by
  rw [Rd] at h
  obtain ⟨A,c,xs,rfl,_⟩:=h
  intro u hu
  simp at hu
  rcases hu with rfl | rfl | rfl | rfl <;> rfl
theorem RdL.one {ok : Nat -> Prop} {w : World} : ∀ (l : List T) (xs : List Value),RdL ok w l xs -> ∀ u ∈ xs,u.oneCell' = true
 | [],xs,h=>by
  rw [RdL] at h
  subst h
  intro u hu
  cases hu
 | t :: ts,xs,h=>by
  rw [RdL] at h
  obtain ⟨cs,xs',rfl,h2,h3⟩:=h
  intro u hu
  rcases List.mem_append.1 hu with hu | hu
  ·exact Rd.one t cs h2 u hu
  ·exact RdL.one ts xs' h3 u hu
end
mutual
def Hv (ok : Nat -> Prop) (w : World) : T -> Value -> Prop
 | .mk k n s l,v=>(k = 1 /\ v = .iface 3 (.int .i64 n)) \/ (k = 2 /\ v = .iface 9 (.string s)) \/ (k = 3 /\ ∃ A c xs,v = .iface 303 (.slice A l.length c) /\ l.length <= 1000000000 /\ ReadsP ok w 1 A l.length xs /\ HvL ok w l xs)
def HvL (ok : Nat -> Prop) (w : World) : List T -> List Value -> Prop
 | [],xs=>xs = []
 | t :: ts,xs=>∃ v xs',xs = v :: xs' /\ Hv ok w t v /\ HvL ok w ts xs'
end
mutual
theorem Hv.keep {ok : Nat -> Prop} {w w' : World} (k : Keeps ok w w') : ∀ (t : T) (v : Value),Hv ok w t v -> Hv ok w' t v
 | .mk _ _ _ l,v,h=>by
  rw [Hv] at h ⊢
  rcases h with h | h | ⟨h0,A,c,xs,h1,h2,h3,h4⟩
  ·exact .inl h
  ·exact .inr (.inl h)
  ·exact .inr (.inr ⟨h0,A,c,xs,h1,h2,h3.keep k,HvL.keep k l xs h4⟩)
theorem HvL.keep {ok : Nat -> Prop} {w w' : World} (k : Keeps ok w w') : ∀ (l : List T) (xs : List Value),HvL ok w l xs -> HvL ok w' l xs
 | [],xs,h=>by rw [HvL] at h ⊢;exact h
 | t :: ts,xs,h=>by
  rw [HvL] at h ⊢
  obtain ⟨v,xs',h1,h2,h3⟩:=h
  exact ⟨v,xs',h1,Hv.keep k t v h2,HvL.keep k ts xs' h3⟩
end
mutual
theorem Hv.mono {ok ok' : Nat -> Prop} {w : World} (k : ∀ b,ok b -> b < w.heap.size -> ok' b) : ∀ (t : T) (v : Value),Hv ok w t v -> Hv ok' w t v
 | .mk _ _ _ l,v,h=>by
  rw [Hv] at h ⊢
  rcases h with h | h | ⟨h0,A,c,xs,h1,h2,h3,h4⟩
  ·exact .inl h
  ·exact .inr (.inl h)
  ·exact .inr (.inr ⟨h0,A,c,xs,h1,h2,h3.mono k,HvL.mono k l xs h4⟩)
theorem HvL.mono {ok ok' : Nat -> Prop} {w : World} (k : ∀ b,ok b -> b < w.heap.size -> ok' b) : ∀ (l : List T) (xs : List Value),HvL ok w l xs -> HvL ok' w l xs
 | [],xs,h=>by rw [HvL] at h ⊢;exact h
 | t :: ts,xs,h=>by
  rw [HvL] at h ⊢
  obtain ⟨v,xs',h1,h2,h3⟩:=h
  exact ⟨v,xs',h1,Hv.mono k t v h2,HvL.mono k ts xs' h3⟩
end
theorem HvL.len {ok : Nat -> Prop} {w : World} : ∀ {l : List T} {xs : List Value},HvL ok w l xs -> xs.length = l.length
 | [],xs,h=>by rw [HvL] at h;subst h;rfl
 | t :: ts,xs,h=>by
  rw [HvL] at h
  obtain ⟨v,xs',rfl,h2,h3⟩:=h
  simp [HvL.len h3]
theorem HvL.get {ok : Nat -> Prop} {w : World} : ∀ {l : List T} {xs : List Value} {i : Nat},HvL ok w l xs -> (hi : i < l.length) -> ∃ v,Hv ok w l[i] v /\ xs[i]? = some v
 | t :: ts,xs,0,h,_=>by
  rw [HvL] at h
  obtain ⟨v,xs',rfl,h2,h3⟩:=h
  exact ⟨v,h2,rfl⟩
 | t :: ts,xs,i + 1,h,hi=>by
  rw [HvL] at h
  obtain ⟨v,xs',rfl,h2,h3⟩:=h
  obtain ⟨u,h4,h5⟩:=HvL.get h3 (by simp at hi;omega : i < ts.length)
  exact ⟨u,h4,by simpa using h5⟩
theorem HvL.snoc {ok : Nat -> Prop} {w : World} {t : T} {v : Value} (ht : Hv ok w t v) : ∀ {l : List T} {xs : List Value},HvL ok w l xs -> HvL ok w (l ++ [t]) (xs ++ [v])
 | [],xs,h=>by
  rw [HvL] at h
  subst h
  exact ⟨v,[],by simp,ht,rfl⟩
 | u :: us,xs,h=>by
  rw [HvL] at h
  obtain ⟨x,xs',rfl,h2,h3⟩:=h
  rw [List.cons_append,HvL]
  exact ⟨x,xs' ++ [v],by simp,h2,HvL.snoc ht h3⟩
theorem ReadsP.of_own {w : World} {base : Nat} {e : TypeId} {size n c : Nat} {A : Option Addr} {xs : List Value} (h : w.ownsRow base e size (.slice A n c) n xs) : ReadsP (fun b=>base <= b) w size A n xs:=by
 refine ⟨h.1,fun hn=>?_⟩
 obtain ⟨g,cap,hv,hb,hlt⟩:=h.form hn
 have hA : A = some ⟨g,0,none⟩:=by injection hv
 subst hA
 have hc:=h.cells (g:=g) rfl
 refine ⟨_,rfl,hb,hlt,?_,hc⟩
 injection hv with _ _ hcap
 subst hcap
 exact h.frozenAt 0
theorem own_shape {w : World} {base : Nat} {e : TypeId} {size : Nat} {v : Value} {n : Nat} {xs : List Value} (h : w.ownsRow base e size v n xs) : ∃ A c,v = .slice A n c /\ n <= c /\ c <= maxLen:=by
 rcases h.2 with ⟨rfl,rfl⟩ | ⟨g,cap,cur,rfl,_,_,h1,h2,_⟩
 ·exact ⟨_,_,rfl,Nat.le_refl _,by simp [maxLen]⟩
 ·exact ⟨_,_,rfl,h1,h2⟩
theorem grown_below {a w : World} (h : Below a.heap.size a w) (row : Option Nat) : a.grownBy w row:=⟨h.os,h.tape,h.output,h.size,fun i hi _=>h.block i hi⟩
theorem grown_then {a b c : World} {row : Option Nat} (h : a.grownBy b row) (k : b.grownBy c row) : a.grownBy c row :=
 ⟨k.os.trans h.os,k.tape.trans h.tape,k.output.trans h.output,Nat.le_trans h.size k.size,fun i hi hne=>(k.block i (Nat.lt_of_lt_of_le hi h.size) hne).trans (h.block i hi hne)⟩
theorem grown_drewN {a w : World} {row : Option Nat} (h : a.grownBy w row) (n : Nat) : a.grownBy (w.drewN n) row:=⟨h.os,h.tape,h.output,h.size,h.block⟩
theorem grown_setCell {a w : World} {R : Nat} (h : a.grownBy w (some R)) (p : Addr) (hp : p.block = R) (u : Value) : a.grownBy (w.setCell p u) (some R) :=
 ⟨h.os,h.tape,h.output,by simpa using h.size,fun i hi hne=>by
  rw [Below.heap_setCell w p u i (by rintro rfl;exact hne (by rw [hp]))]
  exact h.block i hi hne⟩
theorem grown_then_far {a b c : World} {row row' : Option Nat} (h : a.grownBy b row) (k : b.grownBy c row') (hr : ∀ g,row' = some g -> row = some g \/ a.heap.size <= g) : a.grownBy c row :=
 ⟨k.os.trans h.os,k.tape.trans h.tape,k.output.trans h.output,Nat.le_trans h.size k.size,fun i hi hne=>(k.block i (Nat.lt_of_lt_of_le hi h.size) (fun e=>by
  rcases hr i e.symm with h1 | h1
  ·exact hne h1.symm
  ·omega)).trans (h.block i hi hne)⟩
theorem bcell {W w1 : World} (hb : Below W.heap.size W w1) : (∀ b o,b < W.heap.size -> w1.cell? ⟨b,o,none⟩ = W.cell? ⟨b,o,none⟩) /\ (∀ b o,b < W.heap.size -> w1.frozen? ⟨b,o,none⟩ = W.frozen? ⟨b,o,none⟩) :=
 ⟨fun b o h=>hb.cell (p:=⟨b,o,none⟩) h,fun b o h=>hb.frozen (p:=⟨b,o,none⟩) h⟩
end
end Be
namespace Be
section
open Go
theorem u8_ofNat {n : Nat} (h : n < 256) : (UInt8.ofNat n).toNat = n:=by simp [UInt8.toNat_ofNat'];omega
theorem isDig_of {d : Nat} (h : d < 10) : isDig (UInt8.ofNat (48 + d)) = true:=by
 simp only [isDig,u8_ofNat (show 48 + d < 256 by omega),Bool.and_eq_true,decide_eq_true_eq];omega
theorem isDig_iff {c : UInt8} : isDig c = true ↔ 48 <= c.toNat /\ c.toNat <= 57:=by simp [isDig]
theorem dec_small {n : Nat} (h : n < 10) : Lib.decDigits n = [UInt8.ofNat (48 + n)]:=by rw [Lib.decDigits,dif_pos h]
theorem dec_big {n : Nat} (h : ¬ n < 10) : Lib.decDigits n = Lib.decDigits (n / 10) ++ [UInt8.ofNat (48 + n % 10)]:=by rw [Lib.decDigits,dif_neg h]
theorem dec_pos (n : Nat) : 1 <= (Lib.decDigits n).length:=by
 by_cases h : n < 10
 ·simp [dec_small h]
 ·simp [dec_big h]
theorem dec_snoc {m d : Nat} (hm : m ≠ 0) (hd : d < 10) : Lib.decDigits (10 * m + d) = Lib.decDigits m ++ [UInt8.ofNat (48 + d)]:=by
 rw [dec_big (by omega),show (10 * m + d) / 10 = m by omega,show (10 * m + d) % 10 = d by omega]
theorem dec_len (k : Nat) : ∀ n : Nat,n < 10 ^ k -> 1 <= k -> (Lib.decDigits n).length <= k:=by
 induction k with
 | zero=>intro n _ h;omega
 | succ k ih =>
  intro n hn _
  by_cases h : n < 10
  ·simp [dec_small h]
  ·rw [dec_big h]
   have hk : 1 <= k:=by
    rcases k with _ | k
    ·simp at hn;omega
    ·omega
   have:=ih (n / 10) (by rw [Nat.pow_succ] at hn;omega) hk
   simp;omega
theorem itoa_len (n : Int) (h0 : -9223372036854775808 <= n) (h1 : n <= 9223372036854775807) : (Lib.itoa n).length <= 20:=by
 unfold Lib.itoa
 split
 ·have:=dec_len 19 n.natAbs (by omega) (by omega)
  simp;omega
 ·have:=dec_len 19 n.toNat (by omega) (by omega)
  omega
theorem itoa_nat (n : Nat) : Lib.itoa (n : Int) = Lib.decDigits n:=by
 unfold Lib.itoa
 rw [if_neg (by omega)]
 rfl
def more {α : Type} (k : Nat) : Except Int (α × Nat) -> Except Int (α × Nat)
 | .error e=>.error e
 | .ok (n,j)=>.ok (n,j + k)
theorem more_zero {α : Type} (r : Except Int (α × Nat)) : more 0 r = r:=by rcases r with e | ⟨n,j⟩ <;> rfl
theorem more_more {α : Type} (a b : Nat) (r : Except Int (α × Nat)) : more a (more b r) = more (b + a) r:=by rcases r with e | ⟨n,j⟩ <;> simp [more,Nat.add_assoc]
theorem dg_step (most : Nat) (stop : UInt8) (over : Int) (first : Bool) (m : Nat) (d : Nat) (hd : d < 10) (hs : isDig stop = false) (hm : first = true \/ m ≠ 0) (hle : 10 * m + d <= most) (tail : List UInt8) :
  dg most stop over first m (UInt8.ofNat (48 + d) :: tail) = more 1 (dg most stop over false (10 * m + d) tail):=by
 have hdig:=isDig_of hd
 have hne : UInt8.ofNat (48 + d) ≠ stop:=by rintro rfl;rw [hdig] at hs;cases hs
 have hv : (UInt8.ofNat (48 + d)).toNat - 48 = d:=by rw [u8_ofNat (by omega)];omega
 generalize UInt8.ofNat (48 + d) = c at hdig hne hv
 rw [dg,if_neg (fun h=>hne h.1),if_neg (by rcases hm with h | h <;> simp [hdig,h]),hv,if_neg (by omega)]
 rcases dg most stop over false (10 * m + d) tail with e | ⟨n,k⟩ <;> rfl
theorem dg_dec (most : Nat) (stop : UInt8) (over : Int) (hs : isDig stop = false) : ∀ (n : Nat),n <= most -> ∀ tail,dg most stop over true 0 (Lib.decDigits n ++ tail) = more (Lib.decDigits n).length (dg most stop over false n tail):=by
 intro n
 induction n using Nat.strongRecOn with
 | _ n ih =>
  intro hn tail
  by_cases h : n < 10
  ·rw [dec_small h,List.singleton_append,dg_step most stop over true 0 n h hs (.inl rfl) (by omega)]
   simp
  ·rw [dec_big h,List.append_assoc,List.singleton_append,ih (n / 10) (by omega) (by omega),dg_step most stop over false (n / 10) (n % 10) (by omega) hs (.inr (by omega)) (by omega),more_more]
   rw [show 10 * (n / 10) + n % 10 = n by omega]
   simp [Nat.add_comm]
theorem dg_put (most : Nat) (stop : UInt8) (over : Int) (hs : isDig stop = false) (n : Nat) (hn : n <= most) (rest : List UInt8) : dg most stop over true 0 (Lib.decDigits n ++ stop :: rest) = .ok (n,(Lib.decDigits n).length + 1):=by
 rw [dg_dec most stop over hs n hn,dg,if_pos ⟨rfl,rfl⟩]
 simp [more,Nat.add_comm]
theorem dg_inv (most : Nat) (stop : UInt8) (over : Int) (hs : isDig stop = false) : ∀ (bs : List UInt8) (first : Bool) (m n k : Nat),(first = true -> m = 0) -> m <= most -> dg most stop over first m bs = .ok (n,k) ->
  n <= most /\ 1 <= k /\ k <= bs.length /\ (if first then [] else Lib.decDigits m) ++ bs.take k = Lib.decDigits n ++ [stop]:=by
 intro bs
 induction bs with
 | nil=>intro first m n k _ _ h;rw [dg] at h;cases h
 | cons c r ih =>
  intro first m n k hf hm h
  rw [dg] at h
  split at h
  ·rename_i hc
   obtain ⟨rfl,rfl⟩:=hc
   cases h
   exact ⟨hm,by omega,by simp,by simp⟩
  ·split at h
   ·cases h
   ·split at h
    ·cases h
    ·rename_i hc hd ho
     have hdig : isDig c = true:=by
      cases hx : isDig c
      ·exact absurd (.inl hx) hd
      ·rfl
     have hc':=isDig_iff.1 hdig
     revert h
     rcases hx : dg most stop over false (10 * m + (c.toNat - 48)) r with e | ⟨n',k'⟩
     ·intro h;cases h
     ·intro h
      cases h
      obtain ⟨h1,h2,h3,h4⟩:=ih false _ _ _ (by simp) (by omega) hx
      refine ⟨h1,by omega,by simp;omega,?_⟩
      rw [<- h4,List.take_succ_cons]
      have hcc : c = UInt8.ofNat (48 + (c.toNat - 48)):=by
       rw [show 48 + (c.toNat - 48) = c.toNat by omega];simp
      cases first with
      | true =>
       obtain rfl:=hf rfl
       simp only [if_true,Bool.false_eq_true,if_false,List.nil_append]
       rw [show 10 * 0 + (c.toNat - 48) = c.toNat - 48 by omega,dec_small (by omega),<- hcc]
       rfl
      | false =>
       have hm0 : m ≠ 0:=fun e=>hd (.inr ⟨rfl,e⟩)
       simp only [Bool.false_eq_true,if_false]
       rw [dec_snoc hm0 (by omega),<- hcc,List.append_assoc]
       rfl
end
end Be
end Go.Proofs.YtegjjhjgfkcbhaaGreatDoor
