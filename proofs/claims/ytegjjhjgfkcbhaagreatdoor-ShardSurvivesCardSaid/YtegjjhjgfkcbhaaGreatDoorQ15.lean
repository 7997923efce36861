/- FailB Abs Chk. Conditions: as each part says. -/
import Derived.Test.YtegjjhjgfkcbhaaGreatDoorQ14
import Derived.Test.YtegjjhjgfkcbhaaGreatDoorQ16
set_option linter.unusedVariables false
set_option linter.unusedSimpArgs false
set_option maxRecDepth 100000
set_option maxHeartbeats 16000000
namespace Go.Proofs.YtegjjhjgfkcbhaaGreatDoor
section
open Go Go.RowKit
section
variable {w w' : World} {F : Nat -> Prop} {d bn bs N : Nat} {v : Value} {nw su : List ByteArray} {L : List (Nat × Nat × ByteArray)}
theorem fail_some (h : DkW w F d bn bs N v nw su L) (hL : L.length <= 1000000) (hsu : ∀ s ∈ su,s.size <= 128) (keep torn : Int) (hk1 : -9223372036854775808 <= keep) (hk2 : keep <= 9223372036854775807) (ht1 : -9223372036854775808 <= torn) (ht2' : torn <= 9223372036854775807) (m : Nat) (hall : shr keep L.length = m) (hm : m < L.length) :
  Calls Tryz.prog 30 #[.pointer (some ⟨d,0,none⟩),.int .i64 keep,.int .i64 torn] w fun e w'=>e = .returned (.int .i64 0) /\ DkW w' F d bn bs N (.slice none 0 0) (forgets (L.drop m) (tornS L[m] (sets (L.take m) su) torn) nw) (tornS L[m] (sets (L.take m) su) torn) [] /\ Turn F w F w':=by
 obtain ⟨g,c,rfl,hgl,-⟩:=h.loose_at hm
 obtain ⟨A0,c',hcc,hq1,hq2⟩:=own_shape h.own
 injection hcc with hA _ hcc
 subst hA hcc
 obtain ⟨W2,hW2⟩ : ∃ W2,W2 = (w.alloc (.cells #[.pointer (some ⟨d,0,none⟩)] 36)).alloc (.cells #[.int .i64 torn] 3):=⟨_,rfl⟩
 have h2 : DkW W2 F d bn bs N (.slice (some ⟨g,0,none⟩) L.length c) nw su L:=by rw [hW2];exact (h.alloc _).alloc _
 have hb1 : Box W2 w.heap.size 36 (.pointer (some ⟨d,0,none⟩)):=by rw [hW2];exact (Box.new w 36 _).keep (heap_alloc_lt _ _ (by simp))
 have ht2 : Turn F w F W2:=by rw [hW2];exact (Turn.alloc F w _).trans (Turn.alloc F _ _)
 have hnF : ¬ F w.heap.size:=fun hf=>by have:=h.lt _ hf;omega
 have hg:=given_any h2
 have hsh:=share_any keep L.length hk1 hk2 hL
 rw [hall] at hsh
 have HG:=Lib.hid hg
 have HS:=Lib.hid hsh
 have hb2 : Box W2 (w.heap.size + 1) 3 (.int .i64 torn):=by rw [hW2];have:=Box.new (w.alloc (.cells #[.pointer (some ⟨d,0,none⟩)] 36)) 3 (.int .i64 torn);simpa using this
 have hnF2 : ¬ F (w.heap.size + 1):=fun hf=>by have:=h.lt _ hf;omega
 have H:=Lib.hid (And.intro h2 (And.intro hb1 (And.intro ht2 (And.intro hnF (And.intro hb2 hnF2)))))
 have hck : ¬ c = m:=by omega
 have hl1:=hb1.lt
 have hc1:=hb1.cell
 clear h h2 hb1 hb2 ht2 hg hsh hall hnF hnF2
 go_enter Tryz.func30,Tryz.ntmps30
 go_wp2_with fail
 rw [<- hW2]
 clear hW2
 go_at_call 57
 refine HG.out.mono ?_
 rintro e w1 ⟨rfl,q,rfl⟩
 have hc:=H.out.1.c3
 have hl:=H.out.1.lt d H.out.1.fd
 go_wp2_with (go_at_call 58;refine (HS.out _).mono ?_;rintro e w3 ⟨rfl,rfl⟩)
 go_quiet (fail)
 obtain ⟨W3,hq⟩ : ∃ W3,W3 = (W2.drewN q).drewN nq:=⟨_,rfl⟩
 have H3:=Lib.hid (show DkW W3 F d bn bs N (.slice (some ⟨g,0,none⟩) L.length c) nw su L /\ Turn F w F W3 /\ Box W3 w.heap.size 36 (.pointer (some ⟨d,0,none⟩)) /\ Box W3 (w.heap.size + 1) 3 (.int .i64 torn) by rw [hq];exact ⟨(H.out.1.drewN q).drewN nq,H.out.2.2.1.trans ((Turn.drewN F _ q).trans (Turn.drewN F _ nq)),H.out.2.1,H.out.2.2.2.2.1⟩)
 rw [<- hq]
 clear hq
 generalize c - m = c2
 obtain ⟨n2,hn2⟩ : ∃ n2,n2 = L.length - m:=⟨_,rfl⟩
 rw [<- hn2]
 have hn20 : 0 < n2:=by omega
 have hn21 : n2 <= 1000000:=by omega
 have hn2z : (0 : Int) < (n2 : Int):=by omega
 have HN:=Lib.hid hn2
 clear hn2
 go_wp2_with fail
 go_loopw [38] (fun i wr=>∃ k : Nat,i = .int .i64 (k : Int) /\ k <= m /\ DkW wr F d bn bs N (.slice (some ⟨g,0,none⟩) L.length c) nw (sets (L.take k) su) L /\ Turn F w F wr /\ Box wr w.heap.size 36 (.pointer (some ⟨d,0,none⟩)) /\ Box wr (w.heap.size + 1) 3 (.int .i64 torn)) (fun i _=>m - (intOf i).toNat)
 case atStart=>exact ⟨0,rfl,Nat.zero_le _,H3.out⟩
 case round =>
  obtain ⟨k,rfl,hk,hD,hT,hB,hB2⟩:=hrel
  by_cases hlt : k < m
  ·have hltz : (k : Int) < (m : Int):=by omega
   have hlL : k < L.length:=by omega
   obtain ⟨g',c',hv,hg,hcell⟩:=hD.loose_at hlL
   have hka:=again_keep hD L[k] (List.getElem_mem _)
   obtain ⟨⟨p1,p2,p3⟩,hp⟩ : ∃ p,L[k] = p:=⟨_,rfl⟩
   rw [hp] at hcell hka
   simp only at hcell hka
   injection hv with hA _ hcc
   injection hA with hA
   injection hA with hA _ _
   subst hA hcc
   have hcb:=hB.cell
   have hlb:=hB.lt
   have HD:=Lib.hid (And.intro hD (And.intro hT (And.intro hB hB2)))
   have HP:=Lib.hid hp
   clear hD hT hp hB hB2
   go_wp2_with (go_at_call 179;refine hka.mono ?_;rintro e w3 ⟨rfl,rfl⟩)
   have hN : DkW (wr.setCell ⟨bs,p2,none⟩ (.string p3)) F d bn bs N (.slice (some ⟨g,0,none⟩) L.length c) nw (sets (L.take (k + 1)) su) L:=by
    have:=HD.out.1.setSure p2 p3
    rw [sets_take L su k hlL,HP.out]
    exact this
   have hT : Turn F w F (wr.setCell ⟨bs,p2,none⟩ (.string p3)):=HD.out.2.1.trans (Turn.set F _ (a:=⟨bs,p2,none⟩) HD.out.1.fs _)
   go_roundw
   case rel=>exact ⟨k + 1,by go_num,by omega,hN,hT,HD.out.2.2.1.keep (heap_set_ne _ _ _ (fun e=>H.out.2.2.2.1 (e ▸ HD.out.1.fs))),HD.out.2.2.2.keep (heap_set_ne _ _ _ (fun e=>H.out.2.2.2.2.2 (e ▸ HD.out.1.fs)))⟩
   case measure=>simp [intOf];omega
  ·obtain rfl : k = m:=by omega
   have hnl : ¬ (k : Int) < (k : Int):=by omega
   have hcb:=hB.cell
   have hlb:=hB.lt
   have hlb2:=hB2.lt
   obtain ⟨g',c',hv,hg,hcell⟩:=hD.loose_at hm
   injection hv with hA _ hcc
   injection hA with hA
   injection hA with hA _ _
   subst hA hcc
   have hte:=again_tear hD L[k] (List.getElem_mem _) (sets_small (fun p hp=>(hD.boxes p (List.mem_of_mem_take hp)).2.2.2) su hsu) _ _ hB torn ht1 ht2' hB2 H.out.2.2.2.1 H.out.2.2.2.2.2
   have HX:=Lib.hid hsu
   have HD:=Lib.hid (And.intro hD (And.intro hT (And.intro hB hB2)))
   clear hD hT hB hB2 hsu
   obtain ⟨S2,hS2⟩ : ∃ S2,S2 = tornS L[k] (sets (L.take k) su) torn:=⟨_,rfl⟩
   rw [<- hS2] at hte
   have HS2:=Lib.hid hS2
   clear hS2
   have HTE:=Lib.hid hte
   clear hte
   go_wp2_with (go_at_call 179;refine HTE.out.mono ?_;rintro e w3 ⟨rfl,hD4,hT4,hF4⟩)
   have hB4 : Box w3 w.heap.size 36 (.pointer (some ⟨d,0,none⟩)):=HD.out.2.2.1.keep (hF4 _ H.out.2.2.2.1)
   have H4:=Lib.hid (And.intro hD4 (And.intro (HD.out.2.1.trans hT4) hB4))
   clear hD4 hT4 hF4 hB4 hcb hlb hcell hlb2
   go_loopw [57] (fun i wq=>∃ j : Nat,i = .int .i64 (j : Int) /\ j <= n2 /\ DkW wq F d bn bs N (.slice (some ⟨g,0,none⟩) L.length c) (forgets ((L.drop k).take j) S2 nw) S2 L /\ Turn F w F wq /\ Box wq w.heap.size 36 (.pointer (some ⟨d,0,none⟩))) (fun i _=>n2 - (intOf i).toNat)
   case atStart=>exact ⟨0,rfl,Nat.zero_le _,H4.out⟩
   case round =>
    clear H4 HTE HD
    obtain ⟨j,rfl,hj,hD,hT,hB⟩:=hrel
    by_cases hlt : j < n2
    ·have hltz : (j : Int) < (n2 : Int):=by omega
     have hlL : k + j < L.length:=by have:=HN.out;omega
     obtain ⟨g',c',hv,hg,hcell⟩:=hD.loose_at hlL
     have hka:=again_forget hD L[k + j] (List.getElem_mem _)
     obtain ⟨⟨p1,p2,p3⟩,hp⟩ : ∃ p,L[k + j] = p:=⟨_,rfl⟩
     rw [hp] at hcell hka
     simp only at hcell hka
     injection hv with hA _ hcc
     injection hA with hA
     injection hA with hA _ _
     subst hA hcc
     have hcb:=hB.cell
     have hlb:=hB.lt
     have HD:=Lib.hid (And.intro hD (And.intro hT hB))
     have HP:=Lib.hid hp
     have HKA:=Lib.hid hka
     clear hD hT hp hB hka
     have HL:=Lib.hid hlL
     go_wp2_with (go_at_call 179;refine HKA.out.mono ?_;rintro e w3 ⟨rfl,q3,rfl⟩)
     have hN : DkW ((wr.setCell ⟨bn,p2,none⟩ (.string (S2.getD p2 ⟨#[]⟩))).drewN q3) F d bn bs N (.slice (some ⟨g,0,none⟩) L.length c) (forgets ((L.drop k).take (j + 1)) S2 nw) S2 L:=by
      have:=(HD.out.1.setNow p2 (S2.getD p2 ⟨#[]⟩)).drewN q3
      have hl' : j < (L.drop k).length:=by rw [List.length_drop];have:=HL.out;omega
      rw [forgets_take (L.drop k) S2 nw j hl']
      rw [List.getElem_drop,HP.out]
      exact this
     have hT : Turn F w F ((wr.setCell ⟨bn,p2,none⟩ (.string (S2.getD p2 ⟨#[]⟩))).drewN q3):=(HD.out.2.1.trans (Turn.set F _ (a:=⟨bn,p2,none⟩) HD.out.1.fn _)).trans (Turn.drewN F _ q3)
     go_roundw
     case rel=>exact ⟨j + 1,by go_num,by omega,hN,hT,HD.out.2.2.keep (heap_set_ne _ _ _ (fun e=>H.out.2.2.2.1 (e ▸ HD.out.1.fn)))⟩
     case measure=>simp [intOf];omega
    ·obtain rfl : j = n2:=by omega
     have hnl : ¬ (j : Int) < (j : Int):=by omega
     have hcb:=hB.cell
     have hlb:=hB.lt
     have HD:=Lib.hid (And.intro hD (And.intro hT hB))
     have hl:=hD.lt d hD.fd
     have hc:=hD.c3
     have hz:=hD.z3
     clear hD hT hB
     go_wp2_with fail
     go_ret
     refine ⟨rfl,?_,HD.out.2.1.trans (Turn.set F _ (a:=⟨d,3,none⟩) HD.out.1.fd _)⟩
     have:=HD.out.1.clear
     rw [List.take_of_length_le (by rw [List.length_drop];have:=HN.out;omega),HS2.out] at this
     exact this
end
end
section
open Go Go.RowKit
def setsP (l : List (Nat × ByteArray)) (su : List ByteArray) : List ByteArray:=l.foldl (fun s p=>s.set p.1 p.2) su
def tornP (p : Nat × ByteArray) (su : List ByteArray) (torn : Int) : List ByteArray:=su.set p.1 (tearB p.2 (su.getD p.1 ⟨#[]⟩) (shr torn p.2.size))
def failP (l : List (Nat × ByteArray)) (su : List ByteArray) (keep torn : Int) : List ByteArray :=
 match l[shr keep l.length]? with
 | some p=>tornP p (setsP (l.take (shr keep l.length)) su) torn
 | none=>setsP l su
theorem sets_map (L : List (Nat × Nat × ByteArray)) : ∀ su,sets L su = setsP (L.map (·.2)) su:=by
 induction L with
 | nil=>intro su;rfl
 | cons p L ih=>intro su;exact ih _
theorem setsP_snoc (l : List (Nat × ByteArray)) (p : Nat × ByteArray) (su : List ByteArray) : setsP (l ++ [p]) su = (setsP l su).set p.1 p.2:=by
 unfold setsP
 rw [List.foldl_append]
 rfl
theorem setsP_app (l m : List (Nat × ByteArray)) (su : List ByteArray) : setsP (l ++ m) su = setsP m (setsP l su):=by
 unfold setsP
 rw [List.foldl_append]
theorem setsP_len (l : List (Nat × ByteArray)) : ∀ su : List ByteArray,(setsP l su).length = su.length:=by
 induction l with
 | nil=>intro su;rfl
 | cons p l ih=>intro su;exact (ih _).trans (List.length_set ..)
theorem setsP_small {l : List (Nat × ByteArray)} (hl : ∀ p ∈ l,p.2.size <= 128) : ∀ su : List ByteArray,(∀ s ∈ su,s.size <= 128) -> ∀ s ∈ setsP l su,s.size <= 128:=by
 induction l with
 | nil=>intro su h;exact h
 | cons p l ih =>
  intro su h
  refine ih (fun q hq=>hl q (List.mem_cons_of_mem _ hq)) _ fun s hs=>?_
  rcases List.mem_or_eq_of_mem_set hs with h1 | h1
  ·exact h s h1
  ·rw [h1];exact hl p (List.mem_cons_self ..)
theorem setsP_at (l : List (Nat × ByteArray)) (i : Nat) : ∀ su : List ByteArray,(setsP l su)[i]? = su[i]? \/ ∃ p ∈ l,p.1 = i:=by
 induction l with
 | nil=>intro su;exact .inl rfl
 | cons p l ih =>
  intro su
  rcases ih (su.set p.1 p.2) with h | ⟨q,hq,e⟩
  ·by_cases hp : p.1 = i
   ·exact .inr ⟨p,List.mem_cons_self ..,hp⟩
   ·refine .inl (h.trans ?_)
    rw [List.getElem?_set_ne hp]
  ·exact .inr ⟨q,List.mem_cons_of_mem _ hq,e⟩
theorem tearB_size {s had : ByteArray} {k : Nat} (hk : k <= s.size) (hs : s.size <= 128) (hh : had.size <= 128) : (tearB s had k).size <= 128:=by
 unfold tearB
 rw [ByteArray.size_append,ByteArray.size_extract,ByteArray.size_extract]
 omega
theorem tornP_small {p : Nat × ByteArray} (hp : p.2.size <= 128) {su : List ByteArray} (h : ∀ s ∈ su,s.size <= 128) (torn : Int) : ∀ s ∈ tornP p su torn,s.size <= 128:=by
 intro s hs
 rcases List.mem_or_eq_of_mem_set hs with h1 | h1
 ·exact h s h1
 ·rw [h1]
  exact tearB_size (shr_le _ _) hp (getD_small h _)
theorem forgets_all (L : List (Nat × Nat × ByteArray)) (S : List ByteArray) : ∀ nw : List ByteArray,nw.length = S.length -> (∀ i,nw[i]? = S[i]? \/ ∃ p ∈ L,p.2.1 = i) -> forgets L S nw = S:=by
 induction L with
 | nil =>
  intro nw hn h
  exact List.ext_getElem? fun i=>(h i).elim id fun ⟨p,hp,_⟩=>by simp at hp
 | cons p L ih =>
  intro nw hn h
  refine ih (nw.set p.2.1 (S.getD p.2.1 ⟨#[]⟩)) (by rw [List.length_set];exact hn) fun i=>?_
  by_cases hi : p.2.1 = i
  ·left
   subst hi
   by_cases hl : p.2.1 < nw.length
   ·rw [List.getElem?_set_self hl,List.getD_eq_getElem?_getD,List.getElem?_eq_getElem (by omega)]
    rfl
   ·rw [List.getElem?_eq_none (by rw [List.length_set];omega),List.getElem?_eq_none (by omega)]
  ·rw [List.getElem?_set_ne hi]
   rcases h i with h | ⟨q,hq,e⟩
   ·exact .inl h
   ·rcases List.mem_cons.1 hq with rfl | hq
    ·exact absurd e hi
    ·exact .inr ⟨q,hq,e⟩
structure Disk (w : World) (F : Nat -> Prop) (d N : Nat) (su : List ByteArray) (l : List (Nat × ByteArray)) : Prop where
 ex : ∃ bn bs v L,DkW w F d bn bs N v (setsP l su) su L /\ L.map (·.2) = l
 small : ∀ s ∈ su,s.size <= 128
section
variable {w w' : World} {F : Nat -> Prop} {d N : Nat} {su : List ByteArray} {l : List (Nat × ByteArray)}
theorem Disk.len (h : Disk w F d N su l) : su.length = N:=by obtain ⟨_,_,_,_,k,_⟩:=h.ex;exact k.ls
theorem Disk.lt (h : Disk w F d N su l) : ∀ b,F b -> b < w.heap.size:=by obtain ⟨_,_,_,_,k,_⟩:=h.ex;exact k.lt
theorem Disk.parts (h : Disk w F d N su l) : ∀ p ∈ l,p.1 < N /\ p.2.size <= 128:=by
 obtain ⟨_,_,_,L,k,rfl⟩:=h.ex
 intro p hp
 obtain ⟨q,hq,rfl⟩:=List.mem_map.1 hp
 exact (k.boxes q hq).2.2
theorem Disk.keep (h : Disk w F d N su l) (hk : ∀ b,F b -> w'.heap[b]? = w.heap[b]?) (hs : w.heap.size <= w'.heap.size) : Disk w' F d N su l:=by
 obtain ⟨bn,bs,v,L,k,e⟩:=h.ex
 exact ⟨⟨bn,bs,v,L,k.keep hk hs,e⟩,h.small⟩
theorem Disk.below (h : Disk w F d N su l) (hb : Below w.heap.size w w') : Disk w' F d N su l:=h.keep (fun b hF=>hb.block b (h.lt b hF)) hb.size
theorem Disk.drewN (h : Disk w F d N su l) (q : Nat) : Disk (w.drewN q) F d N su l:=h.keep (fun _ _=>rfl) (Nat.le_refl _)
theorem Disk.alloc (h : Disk w F d N su l) (o : Obj) : Disk (w.alloc o) F d N su l:=h.keep (fun b hb=>heap_alloc_lt w o (h.lt b hb)) (by simp)
theorem Disk.turn {G G' : Nat -> Prop} (h : Disk w F d N su l) (t : Turn G w G' w') (hd : ∀ b,F b -> ¬ G b) : Disk w' F d N su l:=h.keep (fun b hb=>t.block b (h.lt b hb) (hd b hb)) t.size
end
theorem none_small (n : Nat) : ∀ s ∈ none_ n,s.size <= 128:=by
 intro s hs
 rw [List.eq_of_mem_replicate hs]
 exact Nat.zero_le _
theorem a_new (n : Nat) (h4 : 4 <= n) (hn : n <= 16384) (w : World) : Calls Tryz.prog 28 #[.int .i64 (n : Int)] w fun e w'=>∃ d F,e = .returned (.tuple #[.pointer (some ⟨d,0,none⟩),.int .i64 0]) /\ Disk w' F d n (none_ n) [] /\ (∀ b,F b -> w.heap.size <= b) /\ Below w.heap.size w w':=by
 refine (new_any n h4 hn w).mono ?_
 rintro e w' ⟨d,bn,bs,rfl,h,hb⟩
 exact ⟨d,_,rfl,⟨⟨bn,bs,_,[],h,rfl⟩,none_small n⟩,fun b hb=>hb.1,hb⟩
section
variable {w w' : World} {F : Nat -> Prop} {d N : Nat} {su : List ByteArray} {l : List (Nat × ByteArray)}
theorem a_put (h : Disk w F d N su l) (k : Nat) (hk : k < N) (s : ByteArray) (hs : s.size <= 128) (hl : l.length <= 1000000) : Calls Tryz.prog 144 #[.pointer (some ⟨d,0,none⟩),.int .i64 (k : Int),.string s] w fun e w' =>
  e = .returned (.int .i64 0) /\ ∃ F',Disk w' F' d N su (l ++ [(k,s)]) /\ Turn F w F' w':=by
 obtain ⟨bn,bs,v,L,h',rfl⟩:=h.ex
 refine (put_ok h' k hk s hs (by simpa using hl)).mono ?_
 rintro e w' ⟨rfl,F',v',k',t⟩
 exact ⟨rfl,F',⟨⟨bn,bs,v',_,by rw [setsP_snoc];exact k',by simp⟩,h.small⟩,t⟩
theorem a_get (h : Disk w F d N su l) (k : Nat) (hk : k < N) : Calls Tryz.prog 141 #[.pointer (some ⟨d,0,none⟩),.int .i64 (k : Int)] w fun e w'=>e = .returned (.tuple #[.string ((setsP l su).getD k ⟨#[]⟩),.int .i64 0]) /\ ∃ q,w' = w.drewN q:=by
 obtain ⟨bn,bs,v,L,h',rfl⟩:=h.ex
 exact get_yes h' k hk
theorem a_sync (h : Disk w F d N su l) (hl : l.length <= 1000000) : Calls Tryz.prog 100 #[.pointer (some ⟨d,0,none⟩)] w fun e w'=>e = .returned (.int .i64 0) /\ Disk w' F d N (setsP l su) [] /\ Turn F w F w':=by
 have hp:=h.parts
 obtain ⟨bn,bs,v,L,h',rfl⟩:=h.ex
 refine (sync_any h' (by simpa using hl)).mono ?_
 rintro e w' ⟨rfl,k,t⟩
 rw [sets_map] at k
 exact ⟨rfl,⟨⟨bn,bs,_,[],k,rfl⟩,setsP_small (fun p hq=>(hp p hq).2) su h.small⟩,t⟩
theorem a_loose (h : Disk w F d N su l) : Calls Tryz.prog 95 #[.pointer (some ⟨d,0,none⟩)] w fun e w'=>e = .returned (.int .i64 (l.length : Int)) /\ ∃ q,w' = w.drewN q:=by
 obtain ⟨bn,bs,v,L,h',rfl⟩:=h.ex
 rw [List.length_map]
 exact loose_any h'
theorem a_blocks (h : Disk w F d N su l) : Calls Tryz.prog 89 #[.pointer (some ⟨d,0,none⟩)] w fun e w'=>e = .returned (.int .i64 (N : Int)) /\ ∃ q,w' = w.drewN q:=by
 obtain ⟨bn,bs,v,L,h',rfl⟩:=h.ex
 exact blocks_any h'
theorem a_fail (h : Disk w F d N su l) (hl : l.length <= 1000000) (keep torn : Int) (hk1 : -9223372036854775808 <= keep) (hk2 : keep <= 9223372036854775807) (ht1 : -9223372036854775808 <= torn) (ht2 : torn <= 9223372036854775807) :
  Calls Tryz.prog 30 #[.pointer (some ⟨d,0,none⟩),.int .i64 keep,.int .i64 torn] w fun e w'=>e = .returned (.int .i64 0) /\ Disk w' F d N (failP l su keep torn) [] /\ Turn F w F w':=by
 have hp:=h.parts
 obtain ⟨bn,bs,v,L,h',rfl⟩:=h.ex
 have hL : L.length <= 1000000:=by simpa using hl
 have hle:=shr_le keep L.length
 unfold failP
 rw [List.length_map]
 by_cases hm : shr keep L.length < L.length
 ·generalize hmm : shr keep L.length = m at *
  have hg : (L.map (·.2))[m]? = some (L[m].2):=by rw [List.getElem?_map,List.getElem?_eq_getElem hm];rfl
  have e2 : tornS L[m] (sets (L.take m) su) torn = tornP L[m].2 (setsP ((L.map (·.2)).take m) su) torn:=by
   rw [sets_map,List.map_take]
   rfl
  have hft : forgets (L.drop m) (tornP L[m].2 (setsP ((L.map (·.2)).take m) su) torn) (setsP (L.map (·.2)) su) = tornP L[m].2 (setsP ((L.map (·.2)).take m) su) torn:=by
   refine forgets_all _ _ _ ?_ fun i=>?_
   ·unfold tornP
    rw [List.length_set,setsP_len,setsP_len]
   ·have hin : L[m] ∈ L.drop m:=by
     rw [List.mem_iff_getElem]
     exact ⟨0,by rw [List.length_drop];omega,by simp⟩
    by_cases hi : L[m].2.1 = i
    ·exact .inr ⟨L[m],hin,hi⟩
    ·have e3 : (tornP L[m].2 (setsP ((L.map (·.2)).take m) su) torn)[i]? = (setsP ((L.map (·.2)).take m) su)[i]?:=by
      unfold tornP
      rw [List.getElem?_set_ne hi]
     rw [e3]
     have e4 : setsP (L.map (·.2)) su = setsP ((L.map (·.2)).drop m) (setsP ((L.map (·.2)).take m) su):=by
      rw [<- setsP_app,List.take_append_drop]
     rw [e4]
     rcases setsP_at ((L.map (·.2)).drop m) i (setsP ((L.map (·.2)).take m) su) with h1 | ⟨p,hp1,hp2⟩
     ·exact .inl h1
     ·rw [<- List.map_drop] at hp1
      obtain ⟨x,hx,rfl⟩:=List.mem_map.1 hp1
      exact .inr ⟨x,hx,hp2⟩
  rw [hg]
  refine (fail_some h' hL h.small keep torn hk1 hk2 ht1 ht2 m hmm hm).mono ?_
  rintro e w' ⟨rfl,k,t⟩
  rw [e2,hft] at k
  refine ⟨rfl,⟨⟨bn,bs,_,[],k,rfl⟩,?_⟩,t⟩
  refine tornP_small ?_ (setsP_small (fun p hq=>(hp p (List.mem_of_mem_take hq)).2) su h.small) torn
  exact (hp L[m].2 (List.mem_map.2 ⟨_,List.getElem_mem _,rfl⟩)).2
 ·have hmm : shr keep L.length = L.length:=by omega
  rw [hmm,List.getElem?_eq_none (by rw [List.length_map];exact Nat.le_refl _)]
  refine (fail_all h' hL keep torn hk1 hk2 hmm).mono ?_
  rintro e w' ⟨rfl,k,t⟩
  rw [sets_map] at k
  exact ⟨rfl,⟨⟨bn,bs,_,[],k,rfl⟩,setsP_small (fun p hq=>(hp p hq).2) su h.small⟩,t⟩
end
end
section
open Go Go.RowKit
def chk (E : List UInt8) (i : Nat) : ByteArray:=⟨((E.drop (128 * i)).take 128).toArray⟩
theorem chk_list (E : List UInt8) (i : Nat) : (chk E i).data.toList = (E.drop (128 * i)).take 128:=rfl
theorem chk_size (E : List UInt8) (i : Nat) : (chk E i).size = min 128 (E.length - 128 * i):=by
 show ((E.drop (128 * i)).take 128).length = _
 rw [List.length_take,List.length_drop]
theorem chk_le (E : List UInt8) (i : Nat) : (chk E i).size <= 128:=by rw [chk_size];omega
theorem chk_ext {E D : List UInt8} {i j : Nat} (h : (E.drop (128 * i)).take 128 = (D.drop (128 * j)).take 128) : chk E i = chk D j:=by
 unfold chk
 rw [h]
theorem chk_full {E : List UInt8} {m i : Nat} (h : 128 * (i + 1) <= m) : chk (E.take m) i = chk E i:=by
 refine chk_ext ?_
 rw [List.drop_take,List.take_take,Nat.min_eq_left (by omega)]
theorem chk_over {E : List UInt8} {m i : Nat} (h : m <= 128 * i) : chk (E.take m) i = ⟨#[]⟩:=by
 unfold chk
 rw [List.drop_take,show m - 128 * i = 0 by omega,List.take_zero,List.take_nil]
theorem chk_none {E : List UInt8} {i : Nat} (h : E.length <= 128 * i) : chk E i = ⟨#[]⟩:=by
 unfold chk
 rw [List.drop_eq_nil_of_le h,List.take_nil]
theorem chk_drop (E : List UInt8) (k i : Nat) : chk (E.drop (128 * k)) i = chk E (k + i):=by
 refine chk_ext ?_
 rw [List.drop_drop,show 128 * k + 128 * i = 128 * (k + i) by omega]
def AtH (su : List ByteArray) (b n : Nat) (E : List UInt8) : Prop:=∀ i,i < n -> su[b + i]? = some (chk E i)
theorem AtH.len {su : List ByteArray} {b n : Nat} {E : List UInt8} (h : AtH su b n E) (hn : 0 < n) : b + n <= su.length:=by
 have:=(List.getElem?_eq_some_iff.1 (h (n - 1) (by omega))).1
 omega
theorem AtH.get {su : List ByteArray} {b n i : Nat} {E : List UInt8} (h : AtH su b n E) (hi : i < n) : su.getD (b + i) ⟨#[]⟩ = chk E i:=by
 rw [List.getD_eq_getElem?_getD,h i hi]
 rfl
theorem AtH.same {su sv : List ByteArray} {b n : Nat} {E : List UInt8} (h : AtH su b n E) (hs : ∀ j,b <= j -> j < b + n -> sv[j]? = su[j]?) : AtH sv b n E :=
 fun i hi=>(hs (b + i) (by omega) (by omega)).trans (h i hi)
inductive Way (b n : Nat) (E : List UInt8) : Nat -> List (Nat × ByteArray) -> Nat -> Prop
 | nil (m : Nat) : Way b n E m [] m
 | cons {m m' m'' i : Nat} {l : List (Nat × ByteArray)} (hm : m <= m') (hE : m' <= E.length) (hi : i < n) (hj : ∀ j,j ≠ i -> chk (E.take m') j = chk (E.take m) j) (hw : Way b n E m' l m'') : Way b n E m ((b + i,chk (E.take m') i) :: l) m''
section
variable {b n : Nat} {E : List UInt8} {m m' m'' : Nat} {l l' : List (Nat × ByteArray)} {su : List ByteArray}
theorem Way.le (h : Way b n E m l m') : m <= m':=by
 induction h with
 | nil=>exact Nat.le_refl _
 | cons hm _ _ _ _ ih=>omega
theorem Way.app (h : Way b n E m l m') (k : Way b n E m' l' m'') : Way b n E m (l ++ l') m'':=by
 induction h with
 | nil=>exact k
 | cons hm hE hi hj _ ih=>exact .cons hm hE hi hj (ih k)
theorem Way.grow (h : Way b n E m l m') (X : List UInt8) : Way b n (E ++ X) m l m':=by
 induction h with
 | nil=>exact .nil _
 | @cons m m' m'' i l hm hE hi hj hw ih =>
  have e : (E ++ X).take m' = E.take m':=List.take_append_of_le_length hE
  have e0 : (E ++ X).take m = E.take m:=List.take_append_of_le_length (by omega)
  rw [<- e]
  exact .cons hm (by rw [List.length_append];omega) hi (by rw [e,e0];exact hj) ih
theorem Way.place (h : Way b n E m l m') : ∀ p ∈ l,b <= p.1 /\ p.1 < b + n:=by
 induction h with
 | nil=>intro p hp;simp at hp
 | cons hm hE hi hj _ ih =>
  intro p hp
  rcases List.mem_cons.1 hp with rfl | hp
  ·simp only;omega
  ·exact ih p hp
theorem at_step {i : Nat} {s : ByteArray} (h : AtH su b n (E.take m)) (hi : i < n) (hj : ∀ j,j ≠ i -> chk (E.take m') j = chk (E.take m) j) (hs : s = chk (E.take m') i) : AtH (su.set (b + i) s) b n (E.take m'):=by
 intro k hk
 by_cases hki : k = i
 ·subst hki
  rw [List.getElem?_set_self (by have:=h.len (by omega);omega),hs]
 ·rw [List.getElem?_set_ne (by omega),h k hk,hj k hki]
theorem Way.at_ (h : Way b n E m l m') : ∀ su,AtH su b n (E.take m) -> AtH (setsP l su) b n (E.take m'):=by
 induction h with
 | nil=>exact fun _ h=>h
 | cons hm hE hi hj _ ih=>exact fun su hs=>ih _ (at_step hs hi hj rfl)
theorem Way.cut (h : Way b n E m l m') : ∀ k,k <= l.length -> ∃ mk,Way b n E m (l.take k) mk /\ Way b n E mk (l.drop k) m':=by
 induction h with
 | nil m=>exact fun k _=>⟨m,by rw [List.take_nil];exact .nil _,by rw [List.drop_nil];exact .nil _⟩
 | @cons m m' m'' i l hm hE hi hj hw ih =>
  intro k hk
  rcases k with _ | k
  ·exact ⟨m,.nil _,.cons hm hE hi hj hw⟩
  ·obtain ⟨mk,h1,h2⟩:=ih k (by rw [List.length_cons] at hk;omega)
   exact ⟨mk,.cons hm hE hi hj h1,h2⟩
theorem tear_chk {i t : Nat} (hm : m <= m') (hE : m' <= E.length) (ht : t <= (chk (E.take m') i).size) (hj : ∀ j,j ≠ i -> chk (E.take m') j = chk (E.take m) j) :
  ∃ k,m <= k /\ k <= m' /\ tearB (chk (E.take m') i) (chk (E.take m) i) t = chk (E.take k) i /\ ∀ j,j ≠ i -> chk (E.take k) j = chk (E.take m) j:=by
 have hl' : (E.take m').length = m':=by rw [List.length_take];omega
 have hl : (E.take m).length = m:=by rw [List.length_take];omega
 have s1:=chk_size (E.take m') i
 have s0:=chk_size (E.take m) i
 rw [hl'] at s1
 rw [hl] at s0
 have key : ∀ k x,m <= k -> k <= m' -> x = tearB (chk (E.take m') i) (chk (E.take m) i) t -> x.data.toList = ((E.take k).drop (128 * i)).take 128 -> (∀ j,j ≠ i -> chk (E.take k) j = chk (E.take m) j) -> ∃ k,m <= k /\ k <= m' /\ tearB (chk (E.take m') i) (chk (E.take m) i) t = chk (E.take k) i /\ ∀ j,j ≠ i -> chk (E.take k) j = chk (E.take m) j:=by
  intro k x h1 h2 h3 h4 h5
  refine ⟨k,h1,h2,?_,h5⟩
  rw [<- h3]
  exact bytes_ext h4
 by_cases hov : (chk (E.take m) i).size < t
 ·refine key (128 * i + t) _ (by omega) (by omega) rfl ?_ ?_
  ·rw [tearB_over hov,Lib.extract_data,chk_list,List.drop_zero,List.drop_take,List.drop_take]
   rw [List.take_take,List.take_take,List.take_take]
   congr 1
   omega
  ·intro j hji
   rw [<- hj j hji]
   rcases Nat.lt_or_gt_of_ne hji with h | h
   ·rw [chk_full (by omega),chk_full (by omega)]
   ·rw [hj j hji,chk_over (by omega),chk_over (by omega)]
 ·refine key m _ (Nat.le_refl _) hm rfl ?_ (fun _ _=>rfl)
  have e2 : ((E.take m).drop (128 * i)).take 128 = ((E.take m).drop (128 * i)).take t ++ (((E.take m).drop (128 * i)).drop t).take (128 - t):=by
   rw [<- List.take_add]
   congr 1
   omega
  have e3 : ((E.take m).drop (128 * i)).take t = (E.drop (128 * i)).take t:=by
   rw [List.drop_take,List.take_take]
   congr 1
   omega
  rw [tearB_in hov,ByteArray.data_append,Array.toList_append,Lib.extract_data,Lib.extract_to_end,chk_list,chk_list,e2,<- e2,List.drop_zero,List.drop_take,List.take_take,List.take_take,List.drop_take,e2,e3]
  congr 1
  congr 1
  omega
theorem failP_some {keep torn : Int} {k : Nat} {p : Nat × ByteArray} (hk : shr keep l.length = k) (hp : l[k]? = some p) : failP l su keep torn = tornP p (setsP (l.take k) su) torn:=by
 unfold failP
 rw [hk,hp]
theorem failP_none' {keep torn : Int} (hp : l[shr keep l.length]? = none) : failP l su keep torn = setsP l su:=by
 unfold failP
 rw [hp]
theorem Way.fail (h : Way b n E m l m') (hE : m' <= E.length) (hs : AtH su b n (E.take m)) (keep torn : Int) :
  ∃ k,m <= k /\ k <= m' /\ AtH (failP l su keep torn) b n (E.take k) /\ (l = [] -> k = m') /\ (shr keep l.length = l.length -> k = m'):=by
 have hle:=shr_le keep l.length
 generalize hk : shr keep l.length = k at *
 rcases Nat.lt_or_ge k l.length with hlt | hge
 ·obtain ⟨mk,h1,h2⟩:=h.cut k hle
  have hp : l[k]? = some l[k]:=List.getElem?_eq_getElem hlt
  rw [failP_some hk hp]
  have ha:=h1.at_ su hs
  rw [List.drop_eq_getElem_cons hlt] at h2
  generalize hq : l[k] = q at h2
  generalize l.drop (k + 1) = lr at h2
  generalize hqq : q :: lr = ql at h2
  cases h2 with
  | nil=>simp at hqq
  | @cons _ mn _ i l2 hm hE' hi hj hw =>
   simp only [List.cons.injEq] at hqq
   obtain ⟨rfl,rfl⟩:=hqq
   obtain ⟨kk,a1,a2,a3,a4⟩:=tear_chk (t:=shr torn (chk (E.take mn) i).size) hm hE' (shr_le _ _) hj
   refine ⟨kk,by have:=h1.le;omega,by have:=hw.le;omega,?_,fun e=>by subst e;simp at hlt,fun e=>by omega⟩
   refine at_step ha hi a4 ?_
   rw [ha.get hi]
   exact a3
 ·rw [failP_none' (by rw [hk];exact List.getElem?_eq_none hge)]
  exact ⟨m',h.le,Nat.le_refl _,h.at_ su hs,fun _=>rfl,fun _=>rfl⟩
theorem failP_at {keep torn : Int} {i : Nat} (h : ∀ p ∈ l,p.1 ≠ i) : (failP l su keep torn)[i]? = su[i]?:=by
 unfold failP
 split
 next p hp =>
  unfold tornP
  rw [List.getElem?_set_ne (h p (List.mem_of_getElem? hp))]
  exact (setsP_at _ i su).elim id fun ⟨q,hq,e⟩=>absurd e (h q (List.mem_of_mem_take hq))
 next=>exact (setsP_at _ i su).elim id fun ⟨q,hq,e⟩=>absurd e (h q hq)
theorem setsP_other {i : Nat} (h : ∀ p ∈ l,p.1 ≠ i) : (setsP l su)[i]? = su[i]?:=(setsP_at _ i su).elim id fun ⟨q,hq,e⟩=>absurd e (h q hq)
end
def layW (nw : List ByteArray) : Nat -> Nat -> List UInt8 -> List (Nat × ByteArray)
 | _,0,_=>[]
 | b,n + 1,s=>(if nw.getD b ⟨#[]⟩ = chk s 0 then [] else [(b,chk s 0)]) ++ layW nw (b + 1) n (s.drop 128)
theorem layW_len (nw : List ByteArray) : ∀ n b s,(layW nw b n s).length <= n
 | 0,_,_=>Nat.le_refl _
 | n + 1,b,s=>by
  have:=layW_len nw n (b + 1) (s.drop 128)
  rw [layW,List.length_append]
  split
  ·simp;omega
  ·simp;omega
theorem chk_next (s : List UInt8) (i : Nat) : chk (s.drop 128) i = chk s (i + 1):=by
 have:=chk_drop s 1 i
 rw [Nat.mul_one] at this
 rw [this,Nat.add_comm]
theorem layW_sets (nw : List ByteArray) : ∀ n b s X,(∀ j,b <= j -> j < b + n -> X[j]? = nw[j]?) -> b + n <= X.length -> (∀ i,i < n -> (setsP (layW nw b n s) X)[b + i]? = some (chk s i)) /\ ∀ j,j < b \/ b + n <= j -> (setsP (layW nw b n s) X)[j]? = X[j]?
 | 0,b,s,X,_,_=>⟨fun i hi=>by omega,fun j _=>rfl⟩
 | n + 1,b,s,X,hX,hl=>by
  rw [layW,setsP_app]
  obtain ⟨Y,hY,hYl,h0,h1⟩ : ∃ Y,setsP (if nw.getD b ⟨#[]⟩ = chk s 0 then [] else [(b,chk s 0)]) X = Y /\ Y.length = X.length /\ Y[b]? = some (chk s 0) /\ ∀ j,j ≠ b -> Y[j]? = X[j]?:=by
   split
   next h =>
    refine ⟨X,rfl,rfl,?_,fun _ _=>rfl⟩
    rw [<- h,List.getD_eq_getElem?_getD,<- hX b (Nat.le_refl _) (by omega),List.getElem?_eq_getElem (by omega)]
    rfl
   next h=>exact ⟨X.set b (chk s 0),rfl,List.length_set ..,List.getElem?_set_self (by omega),fun j hj=>List.getElem?_set_ne (by omega)⟩
  rw [hY]
  obtain ⟨a1,a2⟩:=layW_sets nw n (b + 1) (s.drop 128) Y (fun j hj hj2=>(h1 j (by omega)).trans (hX j (by omega) (by omega))) (by omega)
  refine ⟨fun i hi=>?_,fun j hj=>(a2 j (by omega)).trans (h1 j (by omega))⟩
  rcases i with _ | i
  ·exact (a2 b (by omega)).trans h0
  ·have:=a1 i (by omega)
   rw [chk_next] at this
   rwa [show b + 1 + i = b + (i + 1) by omega] at this
theorem layW_nil (nw : List ByteArray) : ∀ n b s,(∀ i,i < n -> nw[b + i]? = some (chk s i)) -> layW nw b n s = []
 | 0,_,_,_=>rfl
 | n + 1,b,s,h=>by
  have h0:=h 0 (by omega)
  rw [Nat.add_zero] at h0
  rw [layW,List.getD_eq_getElem?_getD,h0,layW_nil nw n (b + 1) (s.drop 128) fun i hi=>by
   have:=h (i + 1) (by omega)
   rw [chk_next]
   rwa [show b + 1 + i = b + (i + 1) by omega]]
  simp
theorem layW_way (nw : List ByteArray) (b n : Nat) (E : List UInt8) : ∀ c i m,128 * i <= m -> m <= 128 * (i + 1) -> m <= E.length -> i + c <= n -> E.length <= 128 * (i + c) -> (∀ j,i <= j -> j < i + c -> nw[b + j]? = some (chk (E.take m) j)) -> Way b n E m (layW nw (b + i) c (E.drop (128 * i))) E.length
 | 0,i,m,h1,h2,h3,h4,h5,h6=>by
  have : m = E.length:=by omega
  subst this
  exact .nil _
 | c + 1,i,m,h1,h2,h3,h4,h5,h6=>by
  have hm' : ∃ m',m' = min (128 * (i + 1)) E.length:=⟨_,rfl⟩
  obtain ⟨m',hm'⟩:=hm'
  have e1 : chk (E.drop (128 * i)) 0 = chk (E.take m') i:=by
   rw [chk_drop,Nat.add_zero]
   rcases Nat.lt_or_ge E.length (128 * (i + 1)) with h | h
   ·rw [show m' = E.length by omega,List.take_length]
   ·rw [chk_full (by omega)]
  have e2 : (E.drop (128 * i)).drop 128 = E.drop (128 * (i + 1)):=by rw [List.drop_drop];congr 1
  have hhad : nw.getD (b + i) ⟨#[]⟩ = chk (E.take m) i:=by
   rw [List.getD_eq_getElem?_getD,h6 i (Nat.le_refl _) (by omega)]
   rfl
  have hrest : ∀ j,i + 1 <= j -> j < i + 1 + c -> nw[b + j]? = some (chk (E.take m') j):=fun j hj hj2=>by
   rw [h6 j (by omega) (by omega),chk_over (by omega),chk_over (by omega)]
  have ih:=layW_way nw b n E c (i + 1) m'
  rw [layW,hhad,e1,e2,show b + i + 1 = b + (i + 1) by omega]
  by_cases hs : chk (E.take m) i = chk (E.take m') i
  ·rw [if_pos hs,List.nil_append]
   have hz:=congrArg ByteArray.size hs
   rw [chk_size,chk_size,List.length_take,List.length_take] at hz
   have : m = m':=by omega
   subst this
   rcases Nat.lt_or_ge m (128 * (i + 1)) with h | h
   ·have hE : m = E.length:=by omega
    have hd : E.drop (128 * (i + 1)) = []:=List.drop_eq_nil_of_le (by omega)
    rw [layW_nil,<- hE]
    ·exact .nil _
    ·intro j hj
     rw [hd,chk_none (by simp),show b + (i + 1) + j = b + (i + 1 + j) by omega,h6 _ (by omega) (by omega),chk_over (by omega)]
   ·exact ih (by omega) (by omega) h3 (by omega) (by omega) hrest
  ·rw [if_neg hs]
   refine .cons (by omega) (by omega) (by omega) (fun j hj=>?_) ?_
   ·rcases Nat.lt_or_gt_of_ne hj with h | h
    ·rw [chk_full (by omega),chk_full (by omega)]
    ·rw [chk_over (by omega),chk_over (by omega)]
   ·rcases Nat.lt_or_ge m' (128 * (i + 1)) with h | h
    ·have hE : m' = E.length:=by omega
     have hd : E.drop (128 * (i + 1)) = []:=List.drop_eq_nil_of_le (by omega)
     rw [layW_nil,<- hE]
     ·exact .nil _
     ·intro j hj
      rw [hd,chk_none (by simp),show b + (i + 1) + j = b + (i + 1 + j) by omega,h6 _ (by omega) (by omega),chk_over (by omega)]
    ·exact ih (by omega) (by omega) (by omega) (by omega) (by omega) hrest
def readL (nw : List ByteArray) : Nat -> Nat -> List UInt8
 | _,0=>[]
 | b,n + 1=>(nw.getD b ⟨#[]⟩).data.toList ++ (if (nw.getD b ⟨#[]⟩).size < 128 then [] else readL nw (b + 1) n)
theorem readL_at (nw : List ByteArray) (E : List UInt8) (b : Nat) : ∀ n i,(∀ j,j < n -> nw[b + i + j]? = some (chk E (i + j))) -> E.length <= 128 * (i + n) -> readL nw (b + i) n = E.drop (128 * i)
 | 0,i,_,hE=>by rw [readL,List.drop_eq_nil_of_le (by omega)]
 | n + 1,i,h,hE=>by
  have h0:=h 0 (by omega)
  rw [Nat.add_zero,Nat.add_zero] at h0
  have hg : nw.getD (b + i) ⟨#[]⟩ = chk E i:=by rw [List.getD_eq_getElem?_getD,h0];rfl
  have ih:=readL_at nw E b n (i + 1) (fun j hj=>by
   have:=h (j + 1) (by omega)
   rwa [show b + (i + 1) + j = b + i + (j + 1) by omega,show i + 1 + j = i + (j + 1) by omega]) (by omega)
  rw [readL,hg,chk_list,chk_size]
  split
  next hs=>rw [List.append_nil,List.take_of_length_le (by rw [List.length_drop];omega)]
  next hs =>
   rw [show b + i + 1 = b + (i + 1) by omega,ih,show 128 * (i + 1) = 128 * i + 128 by omega,<- List.drop_drop,List.take_append_drop]
theorem AtH.read {nw : List ByteArray} {b n : Nat} {E : List UInt8} (h : AtH nw b n E) (hE : E.length <= 128 * n) : readL nw b n = E:=by
 have:=readL_at nw E b n 0 (fun j hj=>by rw [Nat.add_zero,Nat.zero_add];exact h j hj) (by omega)
 rwa [Nat.mul_zero,List.drop_zero] at this
theorem wh_ge : ∀ (R : List (List UInt8)) (k m : Nat),k <= R.length -> (encs (R.take k)).length <= m -> k <= wh R m
 | _,0,_,_,_=>Nat.zero_le _
 | [],k + 1,m,h,_=>by simp at h
 | t :: R,k + 1,m,h,hm=>by
  rw [List.take_succ_cons,encs_cons,List.length_append,enc_len] at hm
  rw [wh,if_pos (by omega)]
  have:=wh_ge R k (m - (t.length + 14)) (by rw [List.length_cons] at h;omega) (by omega)
  omega
theorem wh_len : ∀ (R : List (List UInt8)) (m : Nat),wh R m <= R.length /\ (encs (R.take (wh R m))).length <= m
 | [],m=>by simp [wh,encs]
 | t :: R,m=>by
  rw [wh]
  split
  next h =>
   have:=wh_len R (m - (t.length + 14))
   rw [List.take_succ_cons,encs_cons,List.length_append,enc_len,List.length_cons]
   omega
  next h=>exact ⟨Nat.zero_le _,by simp [encs]⟩
theorem wh_all (R : List (List UInt8)) : wh R (encs R).length = R.length :=
 Nat.le_antisymm (wh_len R _).1 (wh_ge R R.length _ (Nat.le_refl _) (by rw [List.take_length];exact Nat.le_refl _))
theorem encs_take_pre (R : List (List UInt8)) (k : Nat) : encs R = encs (R.take k) ++ encs (R.drop k):=by
 rw [<- encs_append,List.take_append_drop]
theorem encs_cut (R : List (List UInt8)) (k m : Nat) (h : (encs (R.take k)).length <= m) : encs (R.take k) = ((encs R).take m).take (encs (R.take k)).length:=by
 have e:=encs_take_pre R k
 rw [List.take_take,Nat.min_eq_left h,e]
 exact (List.take_left' rfl).symm
end
end Go.Proofs.YtegjjhjgfkcbhaaGreatDoor
