/- EMath SMath SKept. Conditions: as each part says. -/
import Derived.Test.YtegjjhjgfkcbhaaGreatDoorQ07
import Derived.Test.YtegjjhjgfkcbhaaGreatDoorQ20
set_option linter.unusedVariables false
set_option linter.unusedSimpArgs false
set_option maxRecDepth 100000
set_option maxHeartbeats 16000000
namespace Go.Proofs.YtegjjhjgfkcbhaaGreatDoor
namespace Be
section
open Go Go.RowKit
def b2i (b : Bool) : Int:=if b then 1 else 0
def rowT (i : Nat) (x : E) : T:=tR i x.s x.e (b2i x.b)
def rowsFrom : Nat -> List E -> List T
 | _,[]=>[]
 | i,x :: r=>if 0 < x.s then rowT i x :: rowsFrom (i + 1) r else rowsFrom (i + 1) r
def textT (q : List E) : T:=.mk 3 0 .empty (rowsFrom 0 q)
def textB (q : List E) : ByteArray:=⟨(enc (textT q)).toArray⟩
theorem rows_app : ∀ (a b : List E) (i : Nat),rowsFrom i (a ++ b) = rowsFrom i a ++ rowsFrom (i + a.length) b
 | [],b,i=>by simp [rowsFrom]
 | x :: r,b,i=>by
  simp only [List.cons_append,rowsFrom,List.length_cons]
  rw [rows_app r b (i + 1),show i + 1 + r.length = i + (r.length + 1) by omega]
  split <;> simp
theorem take_snoc (q : List E) {k : Nat} (hk : k < q.length) : q.take (k + 1) = q.take k ++ [q[k]!]:=by
 rw [List.take_succ_eq_append_getElem hk,List.getElem!_eq_getElem?_getD,List.getElem?_eq_getElem hk]
 rfl
theorem rows_yes (q : List E) {k : Nat} (hk : k < q.length) (h : 0 < q[k]!.s) : rowsFrom 0 (q.take (k + 1)) = rowsFrom 0 (q.take k) ++ [rowT k q[k]!]:=by
 rw [take_snoc q hk,rows_app,List.length_take,Nat.min_eq_left (by omega),Nat.zero_add]
 generalize q[k]! = x at h ⊢
 simp [rowsFrom,h]
theorem rows_no (q : List E) {k : Nat} (hk : k < q.length) (h : ¬ 0 < q[k]!.s) : rowsFrom 0 (q.take (k + 1)) = rowsFrom 0 (q.take k):=by
 rw [take_snoc q hk,rows_app]
 generalize q[k]! = x at h ⊢
 simp [rowsFrom,h]
theorem rows_len : ∀ (q : List E) (i : Nat),(rowsFrom i q).length <= q.length
 | [],i=>by simp [rowsFrom]
 | x :: r,i=>by
  have:=rows_len r (i + 1)
  simp only [rowsFrom]
  split <;> simp <;> omega
def S64 (n : Int) : Prop:=-9223372036854775808 <= n /\ n <= 9223372036854775807
theorem tN_facts {n : Int} (h : S64 n) : kindsOk (tN n) = true /\ deepT (tN n) = 0 /\ wfT (tN n) = true /\ tidy (tN n) = tN n /\ (enc (tN n)).length <= 22:=by
 refine ⟨by simp [tN,kindsOk],by simp [tN,deepT],?_,by simp [tN,tidy],?_⟩
 ·have h1:=h.1
  have h2:=h.2
  simp [tN,wfT,wfL,h1,h2]
 ·have:=itoa_len n h.1 h.2
  simp only [tN,enc,if_true,List.length_cons,List.length_append,List.length_nil]
  omega
theorem tR_facts {c s e b : Int} (hc : S64 c) (hs : S64 s) (he : S64 e) (hb : S64 b) : kindsOk (tR c s e b) = true /\ deepT (tR c s e b) = 1 /\ wfT (tR c s e b) = true /\ tidy (tR c s e b) = tR c s e b /\ (enc (tR c s e b)).length <= 90:=by
 obtain ⟨a1,a2,a3,a4,a5⟩:=tN_facts hc
 obtain ⟨b1,b2,b3,b4,b5⟩:=tN_facts hs
 obtain ⟨c1,c2,c3,c4,c5⟩:=tN_facts he
 obtain ⟨d1,d2,d3,d4,d5⟩:=tN_facts hb
 refine ⟨by simp [tR,kindsOk,kindsOkL,a1,b1,c1,d1],by simp [tR,deepT,deepL,a2,b2,c2,d2],by simp [tR,wfT,wfL,a3,b3,c3,d3],by simp [tR,tidy,tidyL,a4,b4,c4,d4],?_⟩
 simp only [tR,enc_list,encL,List.length_cons,List.length_append,List.length_nil]
 omega
theorem b2i_64 (b : Bool) : S64 (b2i b):=by cases b <;> exact ⟨by decide,by decide⟩
theorem rowT_facts {i : Nat} {x : E} (hi : i < 1000) (hx : GoodE x) : kindsOk (rowT i x) = true /\ deepT (rowT i x) = 1 /\ wfT (rowT i x) = true /\ tidy (rowT i x) = rowT i x /\ (enc (rowT i x)).length <= 90 :=
 tR_facts ⟨by omega,by omega⟩ ⟨by have:=hx.1;omega,by have:=hx.1;omega⟩ ⟨by have:=hx.2.1;omega,by have:=hx.2.1;omega⟩ (b2i_64 _)
theorem rows_facts : ∀ (q : List E) (i : Nat),i + q.length < 1000 -> (∀ x ∈ q,GoodE x) -> kindsOkL (rowsFrom i q) = true /\ deepL (rowsFrom i q) <= 1 /\ wfL (rowsFrom i q) = true /\ tidyL (rowsFrom i q) = rowsFrom i q /\ (encL (rowsFrom i q)).length <= 90 * q.length
 | [],i,_,_=>by simp [rowsFrom,kindsOkL,deepL,wfL,tidyL,encL]
 | x :: r,i,hi,h=>by
  simp only [List.length_cons] at hi
  obtain ⟨a1,a2,a3,a4,a5⟩:=rows_facts r (i + 1) (by omega) (fun y hy=>h y (List.mem_cons_of_mem _ hy))
  simp only [rowsFrom,List.length_cons]
  split
  ·obtain ⟨b1,b2,b3,b4,b5⟩:=rowT_facts (i:=i) (by omega) (h x (List.mem_cons_self ..))
   refine ⟨by simp [kindsOkL,a1,b1],by simp only [deepL,b2];omega,by simp [wfL,a3,b3],by simp [tidyL,a4,b4],?_⟩
   simp only [encL,List.length_append]
   omega
  ·exact ⟨a1,a2,a3,a4,by omega⟩
theorem text_facts {q : List E} (h : Okq q) : kindsOk (textT q) = true /\ deepT (textT q) <= 2 /\ wfT (textT q) = true /\ tidy (textT q) = textT q /\ (enc (textT q)).length <= 722:=by
 have hl:=h.len
 obtain ⟨a1,a2,a3,a4,a5⟩:=rows_facts q 0 (by omega) h.good
 refine ⟨by simp [textT,kindsOk,a1],by simp only [textT,deepT];simp;omega,by simp [textT,wfT,a3],by simp [textT,tidy,a4],?_⟩
 simp only [textT,enc_list,List.length_cons,List.length_append,List.length_nil]
 omega
theorem text_gd {q : List E} (h : Okq q) : gdT (textT q) 0 [] = true:=by
 obtain ⟨a1,a2,a3,a4,a5⟩:=text_facts h
 exact gdT_iff.2 ⟨a1,by omega,by rw [List.nil_append];omega⟩
theorem text_only {q : List E} (h : Okq q) : onlyRes (textB q).data.toList = .ok (textT q):=by
 obtain ⟨a1,a2,a3,a4,a5⟩:=text_facts h
 have:=rd_enc (textT q) 0 [] a1 a3 (by omega) (by omega)
 rw [List.append_nil,a4] at this
 unfold onlyRes takeRes textB
 rw [List.toList_toArray,this]
 simp only
 rw [if_neg (by omega)]
 simp
def four? (r : T) : Option (Int × Int × Int × Int):=match r.l with
 | [a,b,c,d]=>if a.k = 1 /\ b.k = 1 /\ c.k = 1 /\ d.k = 1 then some (a.n,b.n,c.n,d.n) else none
 | _=>none
def ofRows : Int -> List E -> List T -> Option (List E)
 | _,q,[]=>some q
 | before,q,r :: rs=>match four? r with
  | none=>none
  | some (c,s,e,b)=>if (b = 0 \/ b = 1) /\ (putM q c s e (decide (b = 1))).2 = 0 /\ before < c then ofRows c (putM q c s e (decide (b = 1))).1 rs else none
def ofM (bs : List UInt8) : Option (List E):=match onlyRes bs with
 | .error _=>none
 | .ok t=>if t.k = 3 then ofRows (-1) q0 t.l else none
theorem four_rowT (i : Nat) (x : E) : four? (rowT i x) = some ((i : Int),x.s,x.e,b2i x.b):=rfl
theorem good_may {x : E} {i : Nat} (hi : i < 8) (h : GoodE x) (h0 : 0 < x.s) : (mayB i x.s && errB x.e) = true:=by
 obtain ⟨⟨h1,h2⟩,⟨h3,h4⟩,_⟩:=h
 simp only [mayB,cliB,seqB,errB,Bool.and_eq_true,decide_eq_true_eq]
 exact ⟨⟨⟨by omega,by omega⟩,by omega,by omega⟩,by omega,by omega⟩
theorem b2i_b (b : Bool) : decide (b2i b = 1) = b:=by cases b <;> rfl
theorem ofRows_back : ∀ (n i : Nat) (q : List E) (before : Int),n = 8 - i -> i <= 8 -> Okq q -> before < i -> ofRows before (q.take i ++ q0.drop i) (rowsFrom i (q.drop i)) = some q
 | 0,i,q,before,hn,hi,hq,hb=>by
  obtain rfl : i = 8:=by omega
  have hl:=hq.len
  have d1 : q.drop 8 = []:=List.drop_of_length_le (by omega)
  have d2 : q.take 8 = q:=List.take_of_length_le (by omega)
  have d3 : q0.drop 8 = []:=rfl
  rw [d1,d2,d3,List.append_nil]
  rfl
 | n + 1,i,q,before,hn,hi,hq,hb=>by
  have hl:=hq.len
  have hi8 : i < 8:=by omega
  have hg:=hq.at_ hi8
  have hd : q.drop i = q[i]! :: q.drop (i + 1):=by
   rw [List.getElem!_eq_getElem?_getD,List.getElem?_eq_getElem (by omega)]
   exact List.drop_eq_getElem_cons (by omega)
  have ht:=take_snoc q (k:=i) (by omega)
  have hz : q0.drop i = e0 :: q0.drop (i + 1):=by
   rw [List.drop_eq_getElem_cons (by show i < 8;omega)]
   simp only [q0,List.getElem_replicate]
  have hcl : (q.take i).length = i:=by rw [List.length_take];omega
  rw [hd]
  have ih:=fun b' (hb' : b' < ((i + 1 : Nat) : Int))=>ofRows_back n (i + 1) q b' (by omega) (by omega) hq hb'
  rw [ht] at ih
  generalize q[i]! = x at *
  simp only [rowsFrom]
  by_cases hs : 0 < x.s
  ·rw [if_pos hs]
   have hm:=good_may hi8 hg hs
   have hcur : (q.take i ++ q0.drop i)[((i : Int)).toNat]!.s = 0:=by
    rw [Int.toNat_natCast,List.getElem!_eq_getElem?_getD,List.getElem?_append_right (by omega),hcl,Nat.sub_self,hz]
    rfl
   have hput : putM (q.take i ++ q0.drop i) i x.s x.e x.b = (q.take i ++ [x] ++ q0.drop (i + 1),0):=by
    unfold putM
    rw [if_pos hm,if_neg (by rw [hcur];omega),Int.toNat_natCast,List.set_append_right _ _ (by omega),hcl,Nat.sub_self,hz]
    simp
   have e1 : ofRows before (q.take i ++ q0.drop i) (rowT i x :: rowsFrom (i + 1) (q.drop (i + 1))) = ofRows i (q.take i ++ [x] ++ q0.drop (i + 1)) (rowsFrom (i + 1) (q.drop (i + 1))):=by
    rw [ofRows,four_rowT]
    simp only [b2i_b,hput]
    rw [if_pos ⟨by cases x.b <;> simp [b2i],trivial,hb⟩]
   rw [e1]
   exact ih i (by omega)
  ·rw [if_neg hs]
   have hx : x = e0:=hg.2.2 (by have:=hg.1.1;omega)
   subst hx
   rw [hz,show q.take i ++ e0 :: q0.drop (i + 1) = q.take i ++ [e0] ++ q0.drop (i + 1) by simp]
   exact ih before (by omega)
theorem ofRows_text {q : List E} (h : Okq q) : ofRows (-1) q0 (rowsFrom 0 q) = some q:=by
 have:=ofRows_back 8 0 q (-1) rfl (by omega) h (by omega)
 simpa using this
theorem ofM_text {q : List E} (h : Okq q) : ofM (textB q).data.toList = some q:=by
 unfold ofM
 rw [text_only h]
 simp only
 rw [if_pos (show (textT q).k = 3 from rfl)]
 exact ofRows_text h
end
end Be
section
open Go Go.RowKit
structure Rec where
 kd : Int
 st : Int
 ep : Int
 mv : Int
 vr : Int
 dm : Int
 cl : Int
 sq : Int
 tb : ByteArray
 ps : List Pnt
def rec0 : Rec:=⟨0,0,0,0,0,0,0,0,.empty,[]⟩
instance : Inhabited Rec:=⟨rec0⟩
def Rec.nums (r : Rec) : List Int:=if r.kd = 1 then [r.st,r.ep,r.mv,r.vr,r.dm] else if r.kd = 3 then [r.st,r.ep,r.mv] else if r.kd = 4 \/ r.kd = 5 then [r.cl,r.sq] else []
def ptT (p : Pnt) : Be.T:=.mk 3 0 .empty (Be.tN p.1 :: p.2.map Be.tN)
def tbT (s : ByteArray) : List Be.T:=if s.size = 0 then [] else [.mk 2 0 s []]
def recL (r : Rec) : List Be.T:=Be.tN r.kd :: (r.nums.map Be.tN ++ (tbT r.tb ++ r.ps.map ptT))
def recT (r : Rec) : Be.T:=.mk 3 0 .empty (recL r)
def recB (r : Rec) : List UInt8:=Be.enc (recT r)
def OkPnt (p : Pnt) : Prop:=Be.S64 p.1 /\ (p.2 = [] \/ okV p.2 = true)
structure Rec.Ok (r : Rec) : Prop where
 kd : Be.S64 r.kd
 st : Be.S64 r.st
 ep : Be.S64 r.ep
 mv : Be.S64 r.mv
 vr : Be.S64 r.vr
 dm : Be.S64 r.dm
 cl : Be.S64 r.cl
 sq : Be.S64 r.sq
 tb : r.tb.size <= 722
 few : r.ps.length <= 128
 pts : ∀ p ∈ r.ps,OkPnt p
theorem Rec.Ok.nums {r : Rec} (h : r.Ok) : ∀ n ∈ r.nums,Be.S64 n:=by
 intro n hn
 unfold Rec.nums at hn
 split at hn
 ·simp only [List.mem_cons,List.not_mem_nil,or_false] at hn
  rcases hn with rfl | rfl | rfl | rfl | rfl
  ·exact h.st
  ·exact h.ep
  ·exact h.mv
  ·exact h.vr
  ·exact h.dm
 ·split at hn
  ·simp only [List.mem_cons,List.not_mem_nil,or_false] at hn
   rcases hn with rfl | rfl | rfl
   ·exact h.st
   ·exact h.ep
   ·exact h.mv
  ·split at hn
   ·simp only [List.mem_cons,List.not_mem_nil,or_false] at hn
    rcases hn with rfl | rfl
    ·exact h.cl
    ·exact h.sq
   ·simp at hn
theorem nums_len (r : Rec) : r.nums.length <= 5:=by
 unfold Rec.nums
 split
 ·simp
 ·split
  ·simp
  ·split <;> simp
theorem coord_s64 {n : Int} (h : -2147483648 <= n /\ n <= 2147483647) : Be.S64 n:=⟨by omega,by omega⟩
theorem itoa_small (n : Int) (h0 : -2147483648 <= n) (h1 : n <= 2147483647) : (Lib.itoa n).length <= 11:=by
 by_cases hn : 0 <= n
 ·obtain ⟨m,rfl⟩ : ∃ m : Nat,n = (m : Int):=⟨n.toNat,by omega⟩
  rw [Be.itoa_nat]
  have:=Be.dec_len 10 m (by omega) (by omega)
  omega
 ·obtain ⟨m,hm⟩ : ∃ m : Nat,n = -(m : Int):=⟨(-n).toNat,by omega⟩
  subst hm
  rw [Be.itoa_neg (by omega)]
  have:=Be.dec_len 10 m (by omega) (by omega)
  simp only [List.length_cons]
  omega
theorem tNs_facts : ∀ l : List Int,(∀ n ∈ l,Be.S64 n) -> Be.kindsOkL (l.map Be.tN) = true /\ Be.deepL (l.map Be.tN) = 0 /\ Be.wfL (l.map Be.tN) = true /\ Be.tidyL (l.map Be.tN) = l.map Be.tN /\ (Be.encL (l.map Be.tN)).length <= 22 * l.length
 | [],_=>by simp [Be.kindsOkL,Be.deepL,Be.wfL,Be.tidyL,Be.encL]
 | n :: l,h=>by
  obtain ⟨a1,a2,a3,a4,a5⟩:=Be.tN_facts (h n (List.mem_cons_self ..))
  obtain ⟨b1,b2,b3,b4,b5⟩:=tNs_facts l fun m hm=>h m (List.mem_cons_of_mem _ hm)
  refine ⟨by simp [Be.kindsOkL,a1,b1],by simp [Be.deepL,a2,b2],by simp [Be.wfL,a3,b3],by simp [Be.tidyL,a4,b4],?_⟩
  simp only [List.map_cons,Be.encL,List.length_append,List.length_cons]
  omega
theorem coords_len : ∀ l : List Int,(∀ x ∈ l,-2147483648 <= x /\ x <= 2147483647) -> (Be.encL (l.map Be.tN)).length <= 13 * l.length
 | [],_=>by simp [Be.encL]
 | n :: l,h=>by
  obtain ⟨h1,h2⟩:=h n (List.mem_cons_self ..)
  have a:=itoa_small n h1 h2
  have b:=coords_len l fun m hm=>h m (List.mem_cons_of_mem _ hm)
  simp only [List.map_cons,Be.encL,List.length_append,List.length_cons,Be.tN,Be.enc,if_true,List.length_nil]
  omega
theorem OkPnt.vec {p : Pnt} (h : OkPnt p) : p.2.length <= 16 /\ ∀ x ∈ p.2,-2147483648 <= x /\ x <= 2147483647:=by
 rcases h.2 with h | h
 ·rw [h]
  exact ⟨by simp,fun x hx=>by cases hx⟩
 ·have:=(okV_iff p.2).1 h
  exact ⟨this.2.1,this.2.2⟩
theorem OkPnt.nums {p : Pnt} (h : OkPnt p) : ∀ n ∈ p.1 :: p.2,Be.S64 n:=by
 intro n hn
 rcases List.mem_cons.1 hn with rfl | hn
 ·exact h.1
 ·exact coord_s64 (h.vec.2 n hn)
theorem ptT_facts {p : Pnt} (h : OkPnt p) : Be.kindsOk (ptT p) = true /\ Be.deepT (ptT p) = 1 /\ Be.wfT (ptT p) = true /\ Be.tidy (ptT p) = ptT p /\ (Be.enc (ptT p)).length <= 232:=by
 obtain ⟨b1,b2,b3,b4,b5⟩:=tNs_facts (p.1 :: p.2) h.nums
 obtain ⟨l1,l2⟩:=h.vec
 have c:=coords_len p.2 l2
 obtain ⟨_,_,_,_,a5⟩:=Be.tN_facts h.1
 unfold ptT
 simp only [List.map_cons] at b1 b2 b3 b4
 refine ⟨by simp [Be.kindsOk,b1],by simp [Be.deepT,b2],by simp [Be.wfT,b3],by simp [Be.tidy,b4],?_⟩
 simp only [Be.enc_list,Be.encL,List.length_cons,List.length_append,List.length_nil]
 omega
theorem ptTs_facts : ∀ l : List Pnt,(∀ p ∈ l,OkPnt p) -> Be.kindsOkL (l.map ptT) = true /\ Be.deepL (l.map ptT) <= 1 /\ Be.wfL (l.map ptT) = true /\ Be.tidyL (l.map ptT) = l.map ptT /\ (Be.encL (l.map ptT)).length <= 232 * l.length
 | [],_=>by simp [Be.kindsOkL,Be.deepL,Be.wfL,Be.tidyL,Be.encL]
 | n :: l,h=>by
  obtain ⟨a1,a2,a3,a4,a5⟩:=ptT_facts (h n (List.mem_cons_self ..))
  obtain ⟨b1,b2,b3,b4,b5⟩:=ptTs_facts l fun m hm=>h m (List.mem_cons_of_mem _ hm)
  refine ⟨by simp [Be.kindsOkL,a1,b1],by simp only [List.map_cons,Be.deepL,a2];omega,by simp [Be.wfL,a3,b3],by simp [Be.tidyL,a4,b4],?_⟩
  simp only [List.map_cons,Be.encL,List.length_append,List.length_cons]
  omega
theorem tbT_facts (s : ByteArray) (h : s.size <= 722) : Be.kindsOkL (tbT s) = true /\ Be.deepL (tbT s) = 0 /\ Be.wfL (tbT s) = true /\ Be.tidyL (tbT s) = tbT s /\ (Be.encL (tbT s)).length <= 743:=by
 unfold tbT
 split
 ·simp [Be.kindsOkL,Be.deepL,Be.wfL,Be.tidyL,Be.encL]
 ·have a:=Be.itoa_len (s.size : Int) (by omega) (by omega)
  refine ⟨by simp [Be.kindsOkL,Be.kindsOk],by simp [Be.deepL,Be.deepT],by simp [Be.wfL,Be.wfT],by simp [Be.tidyL,Be.tidy],?_⟩
  have e : s.data.toList.length = s.size:=by simp
  simp only [Be.encL,Be.enc_text,List.length_append,List.length_cons,List.length_nil,e]
  omega
theorem kindsL_app : ∀ a b : List Be.T,Be.kindsOkL (a ++ b) = (Be.kindsOkL a && Be.kindsOkL b)
 | [],b=>by simp [Be.kindsOkL]
 | t :: a,b=>by simp [Be.kindsOkL,kindsL_app a b,Bool.and_assoc]
theorem deepL_app : ∀ a b : List Be.T,Be.deepL (a ++ b) = max (Be.deepL a) (Be.deepL b)
 | [],b=>by simp [Be.deepL]
 | t :: a,b=>by simp only [List.cons_append,Be.deepL,deepL_app a b];omega
theorem wfL_app : ∀ a b : List Be.T,Be.wfL (a ++ b) = (Be.wfL a && Be.wfL b)
 | [],b=>by simp [Be.wfL]
 | t :: a,b=>by simp [Be.wfL,wfL_app a b,Bool.and_assoc]
theorem tidyL_app : ∀ a b : List Be.T,Be.tidyL (a ++ b) = Be.tidyL a ++ Be.tidyL b
 | [],b=>by simp [Be.tidyL]
 | t :: a,b=>by simp [Be.tidyL,tidyL_app a b]
theorem encL_app' : ∀ a b : List Be.T,Be.encL (a ++ b) = Be.encL a ++ Be.encL b
 | [],b=>by simp [Be.encL]
 | t :: a,b=>by simp [Be.encL,encL_app' a b]
theorem recL_facts {r : Rec} (h : r.Ok) : Be.kindsOkL (recL r) = true /\ Be.deepL (recL r) <= 1 /\ Be.wfL (recL r) = true /\ Be.tidyL (recL r) = recL r /\ (Be.encL (recL r)).length <= 875 + 232 * r.ps.length:=by
 obtain ⟨a1,a2,a3,a4,a5⟩:=Be.tN_facts h.kd
 obtain ⟨b1,b2,b3,b4,b5⟩:=tNs_facts r.nums h.nums
 obtain ⟨c1,c2,c3,c4,c5⟩:=tbT_facts r.tb h.tb
 obtain ⟨d1,d2,d3,d4,d5⟩:=ptTs_facts r.ps h.pts
 have hl:=nums_len r
 unfold recL
 refine ⟨by simp [Be.kindsOkL,kindsL_app,a1,b1,c1,d1],by simp only [Be.deepL,deepL_app,a2,b2,c2];omega,by simp [Be.wfL,wfL_app,a3,b3,c3,d3],by simp [Be.tidyL,tidyL_app,a4,b4,c4,d4],?_⟩
 simp only [Be.encL,encL_app',List.length_append]
 omega
theorem recT_facts {r : Rec} (h : r.Ok) : Be.kindsOk (recT r) = true /\ Be.deepT (recT r) <= 2 /\ Be.wfT (recT r) = true /\ Be.tidy (recT r) = recT r /\ (recB r).length <= 877 + 232 * r.ps.length:=by
 obtain ⟨a1,a2,a3,a4,a5⟩:=recL_facts h
 refine ⟨by simp [recT,Be.kindsOk,a1],by simp only [recT,Be.deepT];simp;omega,by simp [recT,Be.wfT,a3],by simp [recT,Be.tidy,a4],?_⟩
 simp only [recB,recT,Be.enc_list,List.length_cons,List.length_append,List.length_nil]
 omega
theorem recB_len {r : Rec} (h : r.Ok) : (recB r).length <= 32768:=by
 have:=(recT_facts h).2.2.2.2
 have:=h.few
 omega
theorem recT_gd {r : Rec} (h : r.Ok) : Be.gdT (recT r) 0 [] = true:=by
 obtain ⟨a1,a2,a3,a4,a5⟩:=recT_facts h
 have:=recB_len h
 exact Be.gdT_iff.2 ⟨a1,by omega,by rw [List.nil_append];unfold recB at this;omega⟩
theorem rec_only {r : Rec} (h : r.Ok) : Be.onlyRes (recB r) = .ok (recT r):=by
 obtain ⟨a1,a2,a3,a4,a5⟩:=recT_facts h
 have hl:=recB_len h
 unfold recB at hl
 have:=Be.rd_enc (recT r) 0 [] a1 a3 (by omega) (by omega)
 rw [List.append_nil,a4] at this
 unfold Be.onlyRes Be.takeRes recB
 rw [this]
 simp only
 rw [if_neg (by omega)]
 simp
/-! ## What records make -/
structure KS where
 dm : Nat
 st : Int
 ep : Int
 mv : Int
 vr : Int
 T : List Pnt
 q : List Be.E
def ks0 (dim : Nat) : KS:=⟨dim,0,0,0,0,[],Be.q0⟩
def noteK (k : KS) (cl sq : Int) (was : Bool) : KS:={ k with q:=(Be.putM k.q cl sq 0 was).1,vr:=k.vr + 1 }
def insK (k : KS) (cl sq : Int) (p : Pnt) : KS:=noteK { k with T:=putT p.1 p.2 k.T } cl sq (hasT p.1 k.T)
def dropK (k : KS) (cl sq x : Int) : KS:=noteK { k with T:=delT x k.T } cl sq (hasT x k.T)
def addsK (k : KS) (l : List Pnt) : KS:={ k with T:=l.foldl (fun T p=>putT p.1 p.2 T) k.T }
def standK (k : KS) (st ep mv : Int) : KS:={ k with st:=st,ep:=ep,mv:=mv }
inductive RK where
 | whole (st ep mv vr : Int) (dm : Nat) (q : List Be.E)
 | pts (l : List Pnt)
 | stand (st ep mv : Int)
 | ins (cl sq : Int) (p : Pnt)
 | drop (cl sq x : Int)
def RK.rc : RK -> Rec
 | .whole st ep mv vr dm q=>{ rec0 with kd:=1,st:=st,ep:=ep,mv:=mv,vr:=vr,dm:=dm,tb:=Be.textB q }
 | .pts l=>{ rec0 with kd:=2,ps:=l }
 | .stand st ep mv=>{ rec0 with kd:=3,st:=st,ep:=ep,mv:=mv }
 | .ins cl sq p=>{ rec0 with kd:=4,cl:=cl,sq:=sq,ps:=[p] }
 | .drop cl sq x=>{ rec0 with kd:=5,cl:=cl,sq:=sq,ps:=[(x,[])] }
def RK.bytes (r : RK) : List UInt8:=recB r.rc
def doK (k : KS) : RK -> KS
 | .whole st ep mv vr _ q=>{ k with st:=st,ep:=ep,mv:=mv,vr:=vr,q:=q }
 | .pts l=>addsK k l
 | .stand st ep mv=>standK k st ep mv
 | .ins cl sq p=>insK k cl sq p
 | .drop cl sq x=>dropK k cl sq x
def RK.May (k : KS) : RK -> Prop
 | .whole st ep mv vr dm q=>Be.S64 st /\ Be.S64 ep /\ Be.S64 mv /\ (0 <= vr /\ vr <= 1000000000) /\ dm <= 16 /\ Be.Okq q
 | .pts l=>l.length <= 128 /\ (∀ p ∈ l,Be.S64 p.1 /\ ck p.2 k.dm = 0) /\ k.T.length + l.length <= 512
 | .stand st ep mv=>Be.S64 st /\ Be.S64 ep /\ Be.S64 mv
 | .ins cl sq p=>Be.S64 cl /\ Be.S64 sq /\ Be.S64 p.1 /\ ck p.2 k.dm = 0 /\ (hasT p.1 k.T = true \/ k.T.length < 512) /\ 0 <= k.vr /\ k.vr <= 1000000000
 | .drop cl sq x=>Be.S64 cl /\ Be.S64 sq /\ Be.S64 x /\ 0 <= k.vr /\ k.vr <= 1000000000
theorem s64_0 : Be.S64 0:=⟨by decide,by decide⟩
theorem s64_k {n : Int} (h0 : 0 <= n) (h1 : n <= 9) : Be.S64 n:=⟨by omega,by omega⟩
theorem s64_dm {n : Nat} (h : n <= 16) : Be.S64 (n : Int):=⟨by omega,by omega⟩
theorem s64_small {n : Int} (h0 : 0 <= n) (h1 : n <= 1000000000) : Be.S64 n:=⟨by omega,by omega⟩
theorem ok_ck {p : Pnt} {dim : Nat} (h1 : Be.S64 p.1) (h : ck p.2 dim = 0) : OkPnt p:=⟨h1,.inr ((ck_zero _ _).1 h).1⟩
theorem RK.May.ok {k : KS} : ∀ {r : RK},r.May k -> r.rc.Ok
 | .whole st ep mv vr dm q,⟨h1,h2,h3,h4,h5,h6⟩=>⟨s64_k (by simp [RK.rc]) (by simp [RK.rc]),h1,h2,h3,s64_small h4.1 h4.2,s64_dm h5,s64_0,s64_0,by
   have:=(Be.text_facts h6).2.2.2.2
   show (Be.textB q).size <= 722
   unfold Be.textB
   simpa [ByteArray.size] using this,by simp [RK.rc,rec0],by simp [RK.rc,rec0]⟩
 | .pts l,⟨h1,h2,_⟩=>⟨s64_k (by simp [RK.rc]) (by simp [RK.rc]),s64_0,s64_0,s64_0,s64_0,s64_0,s64_0,s64_0,by simp [RK.rc,rec0],h1,fun p hp=>ok_ck (h2 p hp).1 (h2 p hp).2⟩
 | .stand st ep mv,⟨h1,h2,h3⟩=>⟨s64_k (by simp [RK.rc]) (by simp [RK.rc]),h1,h2,h3,s64_0,s64_0,s64_0,s64_0,by simp [RK.rc,rec0],by simp [RK.rc,rec0],by simp [RK.rc,rec0]⟩
 | .ins cl sq p,⟨h1,h2,h3,h4,_⟩=>⟨s64_k (by simp [RK.rc]) (by simp [RK.rc]),s64_0,s64_0,s64_0,s64_0,s64_0,h1,h2,by simp [RK.rc,rec0],by simp [RK.rc],by
   intro x hx
   simp only [RK.rc,List.mem_singleton] at hx
   subst hx
   exact ok_ck h3 h4⟩
 | .drop cl sq x,⟨h1,h2,h3,_⟩=>⟨s64_k (by simp [RK.rc]) (by simp [RK.rc]),s64_0,s64_0,s64_0,s64_0,s64_0,h1,h2,by simp [RK.rc,rec0],by simp [RK.rc],by
   intro y hy
   simp only [RK.rc,List.mem_singleton] at hy
   subst hy
   exact ⟨h3,.inl rfl⟩⟩
end
section
open Go Go.RowKit
def kcells (k : KS) (t p : Nat) : List Value:=[.int .i64 (k.dm : Int),.int .i64 k.st,.int .i64 k.ep,.int .i64 k.mv,.int .i64 k.vr,.pointer (some ⟨t,0,none⟩),.pointer (some ⟨p,0,none⟩)]
structure KeptR (w : World) (F Ft : Nat -> Prop) (g t p : Nat) (k : KS) : Prop where
 row : Row w g 97 (kcells k t p)
 tree : Tree w Ft t k.dm k.T
 tab : Be.TabAt w p k.q
 fg : F g
 fp : F p
 sub : ∀ b,Ft b -> F b
 ng : ¬ Ft g
 np : ¬ Ft p
 ne : g ≠ p
 lt : ∀ b,F b -> b < w.heap.size
section
variable {w w' : World} {F Ft : Nat -> Prop} {g t p : Nat} {k : KS}
theorem KeptR.keep (h : KeptR w F Ft g t p k) (hk : ∀ b,F b -> w'.heap[b]? = w.heap[b]?) (hs : w.heap.size <= w'.heap.size) : KeptR w' F Ft g t p k:=by
 refine { h with row:=h.row.keep (hk g h.fg),tab:=h.tab.keep (hk p h.fp),tree:=?_,lt:=fun b hb=>by have:=h.lt b hb;omega }
 obtain ⟨bm,fm,rv,N,B,U,ht,hp⟩:=h.tree.mem
 exact ⟨⟨bm,fm,rv,N,B,U,ht.keep (fun b hb=>hk b (h.sub b hb)) hs,hp⟩,h.tree.rise⟩
theorem KeptR.below (h : KeptR w F Ft g t p k) (hb : Below w.heap.size w w') : KeptR w' F Ft g t p k:=h.keep (fun b hF=>hb.block b (h.lt b hF)) hb.size
theorem KeptR.drewN (h : KeptR w F Ft g t p k) (q : Nat) : KeptR (w.drewN q) F Ft g t p k:=h.keep (fun _ _=>rfl) (Nat.le_refl _)
theorem KeptR.turn {G G' : Nat -> Prop} (h : KeptR w F Ft g t p k) (T : Turn G w G' w') (hd : ∀ b,F b -> ¬ G b) : KeptR w' F Ft g t p k:=h.keep (fun b hF=>T.block b (h.lt b hF) (hd b hF)) T.size
theorem KeptR.atTree {Ft' : Nat -> Prop} {T' : List Pnt} (h : KeptR w F Ft g t p k) (ht : Tree w' Ft' t k.dm T') (hT : Turn Ft w Ft' w') : KeptR w' (fun b=>F b \/ Ft' b) Ft' g t p { k with T:=T' } /\ Turn F w (fun b=>F b \/ Ft' b) w':=by
 have hg:=h.lt g h.fg
 have hp:=h.lt p h.fp
 refine ⟨⟨h.row.keep (hT.block g hg h.ng),ht,h.tab.keep (hT.block p hp h.np),.inl h.fg,.inl h.fp,fun b hb=>.inr hb,fun hb=>?_,fun hb=>?_,h.ne,fun b hb=>?_⟩,⟨hT.os,hT.tape,hT.output,hT.size,fun b hb hF=>hT.block b hb fun hf=>hF (h.sub b hf),fun b hb=>?_⟩⟩
 ·rcases hT.foot g hb with h1 | h1
  ·exact h.ng h1
  ·omega
 ·rcases hT.foot p hb with h1 | h1
  ·exact h.np h1
  ·omega
 ·rcases hb with hb | hb
  ·have:=h.lt b hb
   have:=hT.size
   omega
  ·exact ht.lt b hb
 ·rcases hb with hb | hb
  ·exact .inl hb
  ·exact (hT.foot b hb).imp (h.sub b) id
theorem KeptR.atTab {q' : List Be.E} (h : KeptR w F Ft g t p k) (ht : Be.TabAt w' p q') (hg : w.grownBy w' (some p)) : KeptR w' F Ft g t p { k with q:=q' } /\ Turn F w F w':=by
 have hgl:=h.lt g h.fg
 have hT : Turn (fun b=>b = p) w (fun b=>b = p) w':=⟨hg.os,hg.tape,hg.output,hg.size,fun b hb hne=>hg.block b hb fun e=>hne (by simpa using e),fun b hb=>.inl hb⟩
 refine ⟨⟨h.row.keep (hg.block g hgl fun e=>h.ne (by simpa using e)),h.tree.turn hT fun b hb e=>h.np (e ▸ hb),ht,h.fg,h.fp,h.sub,h.ng,h.np,h.ne,fun b hb=>Nat.lt_of_lt_of_le (h.lt b hb) hg.size⟩,⟨hg.os,hg.tape,hg.output,hg.size,fun b hb hF=>hg.block b hb fun e=>hF (by cases e;exact h.fp),fun b hb=>.inl hb⟩⟩
theorem KeptR.atRow {k' : KS} (h : KeptR w F Ft g t p k) (hT : Turn (fun b=>b = g) w (fun b=>b = g) w') (hr : Row w' g 97 (kcells k' t p)) (e1 : k'.dm = k.dm) (e2 : k'.T = k.T) (e3 : k'.q = k.q) : KeptR w' F Ft g t p k' /\ Turn F w F w':=by
 have ht:=h.tree.turn hT fun b hb e=>h.ng (e ▸ hb)
 have hp:=h.tab.keep (hT.block p (h.lt p h.fp) fun e=>h.ne e.symm)
 refine ⟨⟨hr,by rw [e1,e2];exact ht,by rw [e3];exact hp,h.fg,h.fp,h.sub,h.ng,h.np,h.ne,fun b hb=>Nat.lt_of_lt_of_le (h.lt b hb) hT.size⟩,⟨hT.os,hT.tape,hT.output,hT.size,fun b hb hF=>hT.block b hb fun e=>hF (e ▸ h.fg),fun b hb=>.inl hb⟩⟩
theorem KeptR.newTab {k' : KS} {p' : Nat} (h : KeptR w F Ft g t p k) (hr : Row w' g 97 (kcells k' t p')) (hT : Turn (fun b=>b = g) w (fun b=>b = g) w') (hp : Be.TabAt w p' k'.q) (hn : ¬ F p') (e1 : k'.dm = k.dm) (e2 : k'.T = k.T) : KeptR w' (fun b=>F b \/ b = p') Ft g t p' k':=by
 have ht:=h.tree.turn hT fun b hb e=>h.ng (e ▸ hb)
 have hp':=hp.keep (hT.block p' hp.row.lt fun e=>hn (e ▸ h.fg))
 refine ⟨hr,by rw [e1,e2];exact ht,hp',.inl h.fg,.inr rfl,fun b hb=>.inl (h.sub b hb),h.ng,fun hb=>hn (h.sub _ hb),fun e=>hn (e ▸ h.fg),fun b hb=>?_⟩
 rcases hb with hb | rfl
 ·exact Nat.lt_of_lt_of_le (h.lt b hb) hT.size
 ·exact hp'.row.lt
theorem KeptR.c0 (h : KeptR w F Ft g t p k) : w.cell? ⟨g,0,none⟩ = some (.int .i64 (k.dm : Int)):=h.row.cell rfl
theorem KeptR.c1 (h : KeptR w F Ft g t p k) : w.cell? ⟨g,1,none⟩ = some (.int .i64 k.st):=h.row.cell rfl
theorem KeptR.c2 (h : KeptR w F Ft g t p k) : w.cell? ⟨g,2,none⟩ = some (.int .i64 k.ep):=h.row.cell rfl
theorem KeptR.c3 (h : KeptR w F Ft g t p k) : w.cell? ⟨g,3,none⟩ = some (.int .i64 k.mv):=h.row.cell rfl
theorem KeptR.c4 (h : KeptR w F Ft g t p k) : w.cell? ⟨g,4,none⟩ = some (.int .i64 k.vr):=h.row.cell rfl
theorem KeptR.c5 (h : KeptR w F Ft g t p k) : w.cell? ⟨g,5,none⟩ = some (.pointer (some ⟨t,0,none⟩)):=h.row.cell rfl
theorem KeptR.c6 (h : KeptR w F Ft g t p k) : w.cell? ⟨g,6,none⟩ = some (.pointer (some ⟨p,0,none⟩)):=h.row.cell rfl
theorem KeptR.z (h : KeptR w F Ft g t p k) (j : Nat) : w.frozen? ⟨g,j,none⟩ = false:=h.row.frozen j
theorem KeptR.gl (h : KeptR w F Ft g t p k) : g < w.heap.size:=h.row.lt
end
theorem turn_one (X : Nat) (V : World) (j : Nat) (u : Value) : Turn (fun b=>b = X) V (fun b=>b = X) (V.setCell ⟨X,j,none⟩ u):=Turn.set (fun b=>b = X) V (a:=⟨X,j,none⟩) rfl u
end
end Go.Proofs.YtegjjhjgfkcbhaaGreatDoor
