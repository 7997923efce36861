/- Ops DPut Sync Fail. Conditions: as each part says. -/
import Derived.Test.YtegjjhjgfkcbhaaGreatDoorQ13
import Derived.Test.YtegjjhjgfkcbhaaGreatDoorQShelf
import Derived.Deep.RegionHeld3
set_option linter.unusedVariables false
set_option linter.unusedSimpArgs false
set_option maxRecDepth 100000
set_option maxHeartbeats 16000000
namespace Go.Proofs.YtegjjhjgfkcbhaaGreatDoor
section
open Go Go.RowKit
section
variable {w w' : World} {F : Nat -> Prop} {d bn bs N : Nat} {v : Value} {nw su : List ByteArray} {L : List (Nat × Nat × ByteArray)}
theorem cell_set_ne {w : World} {b o b' o' : Nat} {u : Value} (h : b ≠ b') : (w.setCell ⟨b',o',none⟩ u).cell? ⟨b,o,none⟩ = w.cell? ⟨b,o,none⟩:=World.cell?_of_block (heap_set_ne w _ _ h)
theorem again_keep (h : DkW w F d bn bs N v nw su L) (p : Nat × Nat × ByteArray) (hp : p ∈ L) : Calls Tryz.prog 179 #[.func (.func 59) #[.pointer (some ⟨d,0,none⟩)] #[],.pointer (some ⟨p.1,0,none⟩),.pointer (some ⟨p.1 + 1,0,none⟩)] w fun e w'=>e = .returned (.tuple #[]) /\ w' = w.setCell ⟨bs,p.2.1,none⟩ (.string p.2.2):=by
 have hb:=h.boxes p hp
 obtain ⟨c,k,s⟩:=p
 have h1:=hb.1.cell
 have h2:=hb.2.1.cell
 have hl1:=hb.1.lt
 have hl2:=hb.2.1.lt
 have hk:=keep_any h k hb.2.2.1 s
 simp only at h1 h2 hl1 hl2 ⊢
 clear h hb
 go_enter Tryz.func179,Tryz.ntmps179
 go_wp2_with fail
 go_at_call 59
 refine hk.mono ?_
 rintro e w1 ⟨rfl,rfl⟩
 go_wp2_with fail
 go_end0
 exact ⟨rfl,rfl⟩
theorem again_forget (h : DkW w F d bn bs N v nw su L) (p : Nat × Nat × ByteArray) (hp : p ∈ L) : Calls Tryz.prog 179 #[.func (.func 62) #[.pointer (some ⟨d,0,none⟩)] #[],.pointer (some ⟨p.1,0,none⟩),.pointer (some ⟨p.1 + 1,0,none⟩)] w fun e w'=>e = .returned (.tuple #[]) /\ ∃ q,w' = (w.setCell ⟨bn,p.2.1,none⟩ (.string (su.getD p.2.1 ⟨#[]⟩))).drewN q:=by
 have hb:=h.boxes p hp
 obtain ⟨c,k,s⟩:=p
 have h1:=hb.1.cell
 have h2:=hb.2.1.cell
 have hl1:=hb.1.lt
 have hl2:=hb.2.1.lt
 have hk:=forget_any h k hb.2.2.1 s
 simp only at h1 h2 hl1 hl2 ⊢
 generalize su.getD k ⟨#[]⟩ = t at *
 clear h hb
 go_enter Tryz.func179,Tryz.ntmps179
 go_wp2_with fail
 go_at_call 62
 refine hk.mono ?_
 rintro e w1 ⟨rfl,q,rfl⟩
 go_wp2_with fail
 go_end0
 exact ⟨rfl,_,rfl⟩
theorem tears_any (h : DkW w F d bn bs N v nw su L) (b1 b2 : Nat) (hb1 : Box w b1 36 (.pointer (some ⟨d,0,none⟩))) (torn : Int) (ht1 : -9223372036854775808 <= torn) (ht2 : torn <= 9223372036854775807) (hb2 : Box w b2 3 (.int .i64 torn))
  (k : Nat) (hk : k < N) (s : ByteArray) (hs : s.size <= 1000000) (hsu : (su.getD k ⟨#[]⟩).size <= 1000000) (hn1 : b1 ≠ bs) (hn2 : b2 ≠ bs) :
  Calls Tryz.prog 60 #[.int .i64 (k : Int),.string s,.pointer (some ⟨b1,0,none⟩),.pointer (some ⟨b2,0,none⟩)] w fun e w'=>e = .returned (.tuple #[]) /\ ∃ q,w' = (w.drewN q).setCell ⟨bs,k,none⟩ (.string (tearB s (su.getD k ⟨#[]⟩) (shr torn s.size))):=by
 have h1:=hb1.cell
 have h2:=hb2.cell
 have hl1:=hb1.lt
 have hl2:=hb2.lt
 have hc:=h.c2
 have hl:=h.lt d h.fd
 have hl3:=h.lt bs h.fs
 have hu:=h.sure.cell (strs_get (l:=su) (j:=k) (by rw [h.ls];exact hk))
 have hsh:=share_any torn s.size ht1 ht2 hs
 have hte:=fun W=>tear_any s (su.getD k ⟨#[]⟩) (shr torn s.size) (shr_le _ _) hs hsu W
 have hn3:=h.e2
 have hkz : (k : Int) < (N : Int):=by omega
 generalize su.getD k ⟨#[]⟩ = t at *
 generalize shr torn s.size = g at *
 have HT:=Lib.hid hte
 have HS:=Lib.hid hsh
 have hke : ∀ q,Calls Tryz.prog 59 #[.pointer (some ⟨d,0,none⟩),.int .i64 (k : Int),.string (tearB s t g)] (w.drewN q) fun e w'=>e = .returned (.tuple #[]) /\ w' = (w.drewN q).setCell ⟨bs,k,none⟩ (.string (tearB s t g)):=fun q=>keep_any (h.drewN q) k hk _
 have HK:=Lib.hid hke
 clear hte hsh hb1 hb2 h hke
 go_enter Tryz.func60,Tryz.ntmps60
 refine wp_region_held_drew (S:=(fun W=>W.cell? ⟨b1,0,none⟩ = some (.pointer (some ⟨d,0,none⟩)) /\ W.cell? ⟨b2,0,none⟩ = some (.int .i64 torn) /\ W.cell? ⟨d,2,none⟩ = some (.slice (some ⟨bs,0,none⟩) N N))) (by kernel_rfl) ?_ (fun hHeld=>?_)
 ·exact ⟨h1,h2,hc⟩
 refine wpAnyH_take (i:=0) (oi:=⟨_,_,_,_,_,_⟩) (v:=?_) rfl (by kernel_rfl) (by kernel_rfl) (by kernel_rfl) (fun _ _ _ h=>h) (Or.inl ⟨by rfl,?_⟩) (by assumption) ?_
 rotate_left
 ·intro w hSw;(try dsimp only at hSw);go_simp <;> with_reducible rfl
 try simp only [Act.put,List.setIfInBounds_toArray,List.set_cons_zero,List.set_cons_succ]
 refine wpAnyH_take (i:=1) (oi:=⟨_,_,_,_,_,_⟩) (v:=?_) rfl (by kernel_rfl) (by kernel_rfl) (by kernel_rfl) (fun _ _ _ h=>h) (Or.inl ⟨by rfl,?_⟩) (by assumption) ?_
 rotate_left
 ·intro w hSw;(try dsimp only at hSw);go_simp <;> with_reducible rfl
 try simp only [Act.put,List.setIfInBounds_toArray,List.set_cons_zero,List.set_cons_succ]
 refine wpAnyH_take (i:=2) (oi:=⟨_,_,_,_,_,_⟩) (v:=?_) rfl (by kernel_rfl) (by kernel_rfl) (by kernel_rfl) (fun _ _ _ h=>h) (Or.inl ⟨by rfl,?_⟩) (by assumption) ?_
 rotate_left
 ·intro w hSw;(try dsimp only at hSw);go_simp <;> with_reducible rfl
 try simp only [Act.put,List.setIfInBounds_toArray,List.set_cons_zero,List.set_cons_succ]
 refine wpAnyH_take (i:=3) (oi:=⟨_,_,_,_,_,_⟩) (v:=?_) rfl (by kernel_rfl) (by kernel_rfl) (by kernel_rfl) (fun _ _ _ h=>h) (Or.inl ⟨by rfl,?_⟩) (by assumption) ?_
 rotate_left
 ·intro w hSw;(try dsimp only at hSw);go_simp <;> with_reducible rfl
 try simp only [Act.put,List.setIfInBounds_toArray,List.set_cons_zero,List.set_cons_succ]
 refine wpAnyH_take (i:=4) (oi:=⟨_,_,_,_,_,_⟩) (v:=?_) rfl (by kernel_rfl) (by kernel_rfl) (by kernel_rfl) (fun _ _ _ h=>h) (Or.inl ⟨by rfl,?_⟩) (by assumption) ?_
 rotate_left
 ·intro w hSw;(try dsimp only at hSw);go_simp <;> with_reducible rfl
 try simp only [Act.put,List.setIfInBounds_toArray,List.set_cons_zero,List.set_cons_succ]
 refine wpAnyH_take (i:=5) (oi:=⟨_,_,_,_,_,_⟩) (v:=?_) rfl (by kernel_rfl) (by kernel_rfl) (by kernel_rfl) (fun _ _ _ h=>h) (Or.inl ⟨by rfl,?_⟩) (by assumption) ?_
 rotate_left
 ·intro w hSw;(try dsimp only at hSw);go_simp <;> with_reducible rfl
 try simp only [Act.put,List.setIfInBounds_toArray,List.set_cons_zero,List.set_cons_succ]
 refine wpAnyH_take (i:=6) (oi:=⟨_,_,_,_,_,_⟩) (v:=?_) rfl (by kernel_rfl) (by kernel_rfl) (by kernel_rfl) (fun _ _ _ h=>h) (Or.inl ⟨by rfl,?_⟩) (by assumption) ?_
 rotate_left
 ·intro w hSw;(try dsimp only at hSw);go_simp <;> with_reducible rfl
 try simp only [Act.put,List.setIfInBounds_toArray,List.set_cons_zero,List.set_cons_succ]
 refine wpAnyH_take (i:=7) (oi:=⟨_,_,_,_,_,_⟩) (v:=?_) rfl (by kernel_rfl) (by kernel_rfl) (by kernel_rfl) (fun _ _ _ h=>h) (Or.inl ⟨by rfl,?_⟩) (by assumption) ?_
 rotate_left
 ·intro w hSw;(try dsimp only at hSw);go_simp <;> with_reducible rfl
 try simp only [Act.put,List.setIfInBounds_toArray,List.set_cons_zero,List.set_cons_succ]
 refine wpAnyH_take (i:=8) (oi:=⟨_,_,_,_,_,_⟩) (v:=?_) rfl (by kernel_rfl) (by kernel_rfl) (by kernel_rfl) (fun _ _ _ h=>h) (Or.inl ⟨by rfl,?_⟩) (by assumption) ?_
 rotate_left
 ·intro w hSw;(try dsimp only at hSw);go_simp <;> with_reducible rfl
 try simp only [Act.put,List.setIfInBounds_toArray,List.set_cons_zero,List.set_cons_succ]
 refine wpAnyH_take (i:=10) (oi:=⟨_,_,_,_,_,_⟩) (v:=?_) rfl (by kernel_rfl) (by kernel_rfl) (by kernel_rfl) (fun _ _ _ h=>h) (Or.inl ⟨by rfl,?_⟩) (by assumption) ?_
 rotate_left
 ·intro w hSw;(try dsimp only at hSw);go_simp <;> with_reducible rfl
 try simp only [Act.put,List.setIfInBounds_toArray,List.set_cons_zero,List.set_cons_succ]
 refine wpAnyH_take (i:=11) (oi:=⟨_,_,_,_,_,_⟩) (v:=?_) rfl (by kernel_rfl) (by kernel_rfl) (by kernel_rfl) (fun _ _ _ h=>h) (Or.inl ⟨by rfl,?_⟩) (by assumption) ?_
 rotate_left
 ·intro w hSw;(try dsimp only at hSw);go_simp <;> with_reducible rfl
 try simp only [Act.put,List.setIfInBounds_toArray,List.set_cons_zero,List.set_cons_succ]
 refine wpAnyH_take (i:=12) (oi:=⟨_,_,_,_,_,_⟩) (v:=?_) rfl (by kernel_rfl) (by kernel_rfl) (by kernel_rfl) (fun _ _ _ h=>h) (Or.inl ⟨by rfl,?_⟩) (by assumption) ?_
 rotate_left
 ·intro w hSw;(try dsimp only at hSw);go_simp <;> with_reducible rfl
 try simp only [Act.put,List.setIfInBounds_toArray,List.set_cons_zero,List.set_cons_succ]
 refine wpAnyH_ready (rs:=[9,13]) (by kernel_rfl) (by simp) ?_
 refine AllReadyH.cons (o:=⟨_,_,_,_,_,_⟩) rfl (fun K hK=>?_) ?_
 ·go_simp
  refine hK.out _ _ ?_ (fun hHeld=>?_)
  ·first | exact ⟨h1,h2,hc⟩ | exact ⟨(cell_set_ne hn1).trans h1,(cell_set_ne hn2).trans h2,(cell_set_ne hn3).trans hc⟩
  clear hK K
  try simp only [Act.put,List.setIfInBounds_toArray,List.set_cons_zero,List.set_cons_succ]
  refine wpAnyH_ready (rs:=[13]) (by kernel_rfl) (by simp) ?_
  refine AllReadyH.cons (o:=⟨_,_,_,_,_,_⟩) rfl (fun K hK=>?_) ?_
  ·go_simp
   go_at_call 58;refine (HS.out _).mono ?_;rintro e w3 ⟨rfl,rfl⟩
   refine hK.out _ _ ?_ (fun hHeld=>?_)
   ·first | exact ⟨h1,h2,hc⟩ | exact ⟨(cell_set_ne hn1).trans h1,(cell_set_ne hn2).trans h2,(cell_set_ne hn3).trans hc⟩
   clear hK K
   try simp only [Act.put,List.setIfInBounds_toArray,List.set_cons_zero,List.set_cons_succ]
   refine wpAnyH_ready (rs:=[14]) (by kernel_rfl) (by simp) ?_
   refine AllReadyH.cons (o:=⟨_,_,_,_,_,_⟩) rfl (fun K hK=>?_) ?_
   ·go_simp
    go_at_call 61;refine (HT.out _).mono ?_;rintro e w3 ⟨rfl,q3,rfl⟩
    refine hK.out _ _ ?_ (fun hHeld=>?_)
    ·first | exact ⟨h1,h2,hc⟩ | exact ⟨(cell_set_ne hn1).trans h1,(cell_set_ne hn2).trans h2,(cell_set_ne hn3).trans hc⟩
    clear hK K
    try simp only [Act.put,List.setIfInBounds_toArray,List.set_cons_zero,List.set_cons_succ]
    refine wpAnyH_ready (rs:=[15]) (by kernel_rfl) (by simp) ?_
    refine AllReadyH.cons (o:=⟨_,_,_,_,_,_⟩) rfl (fun K hK=>?_) ?_
    ·go_simp
     go_at_call 59;refine (HK.out _).mono ?_;rintro e w3 ⟨rfl,rfl⟩
     refine hK.out _ _ ?_ (fun hHeld=>?_)
     ·first | exact ⟨h1,h2,hc⟩ | exact ⟨(cell_set_ne hn1).trans h1,(cell_set_ne hn2).trans h2,(cell_set_ne hn3).trans hc⟩
     clear hK K
     try simp only [Act.put,List.setIfInBounds_toArray,List.set_cons_zero,List.set_cons_succ]
     refine wpAnyH_done (by kernel_rfl) ?_ _
     go_end0
     exact ⟨rfl,_,rfl⟩
    exact AllReadyH.nil
   exact AllReadyH.nil
  exact AllReadyH.nil
 refine AllReadyH.cons (o:=⟨_,_,_,_,_,_⟩) rfl (fun K hK=>?_) ?_
 ·go_simp
  go_at_call 58;refine (HS.out _).mono ?_;rintro e w3 ⟨rfl,rfl⟩
  refine hK.out _ _ ?_ (fun hHeld=>?_)
  ·first | exact ⟨h1,h2,hc⟩ | exact ⟨(cell_set_ne hn1).trans h1,(cell_set_ne hn2).trans h2,(cell_set_ne hn3).trans hc⟩
  clear hK K
  try simp only [Act.put,List.setIfInBounds_toArray,List.set_cons_zero,List.set_cons_succ]
  refine wpAnyH_ready (rs:=[9]) (by kernel_rfl) (by simp) ?_
  refine AllReadyH.cons (o:=⟨_,_,_,_,_,_⟩) rfl (fun K hK=>?_) ?_
  ·go_simp
   refine hK.out _ _ ?_ (fun hHeld=>?_)
   ·first | exact ⟨h1,h2,hc⟩ | exact ⟨(cell_set_ne hn1).trans h1,(cell_set_ne hn2).trans h2,(cell_set_ne hn3).trans hc⟩
   clear hK K
   try simp only [Act.put,List.setIfInBounds_toArray,List.set_cons_zero,List.set_cons_succ]
   refine wpAnyH_ready (rs:=[14]) (by kernel_rfl) (by simp) ?_
   refine AllReadyH.cons (o:=⟨_,_,_,_,_,_⟩) rfl (fun K hK=>?_) ?_
   ·go_simp
    go_at_call 61;refine (HT.out _).mono ?_;rintro e w3 ⟨rfl,q3,rfl⟩
    refine hK.out _ _ ?_ (fun hHeld=>?_)
    ·first | exact ⟨h1,h2,hc⟩ | exact ⟨(cell_set_ne hn1).trans h1,(cell_set_ne hn2).trans h2,(cell_set_ne hn3).trans hc⟩
    clear hK K
    try simp only [Act.put,List.setIfInBounds_toArray,List.set_cons_zero,List.set_cons_succ]
    refine wpAnyH_ready (rs:=[15]) (by kernel_rfl) (by simp) ?_
    refine AllReadyH.cons (o:=⟨_,_,_,_,_,_⟩) rfl (fun K hK=>?_) ?_
    ·go_simp
     go_at_call 59;refine (HK.out _).mono ?_;rintro e w3 ⟨rfl,rfl⟩
     refine hK.out _ _ ?_ (fun hHeld=>?_)
     ·first | exact ⟨h1,h2,hc⟩ | exact ⟨(cell_set_ne hn1).trans h1,(cell_set_ne hn2).trans h2,(cell_set_ne hn3).trans hc⟩
     clear hK K
     try simp only [Act.put,List.setIfInBounds_toArray,List.set_cons_zero,List.set_cons_succ]
     refine wpAnyH_done (by kernel_rfl) ?_ _
     go_end0
     exact ⟨rfl,_,rfl⟩
    exact AllReadyH.nil
   exact AllReadyH.nil
  exact AllReadyH.nil
 exact AllReadyH.nil
end
end
section
open Go Go.RowKit
theorem clone_any (s : ByteArray) (hs : s.size <= 1000000) (w : World) : Calls Tryz.prog 138 #[.string s] w fun e w'=>e = .returned (.string s) /\ Below w.heap.size w w':=by
 have hcl:=Tryz.stringslite_Clone s w (by omega)
 go_enter Tryz.func138,Tryz.ntmps138
 go_wp2_with fail
 go_at_call 172
 refine hcl.mono ?_
 rintro e w1 ⟨rfl,hb⟩
 go_wp2_with fail
 go_ret
 exact ⟨rfl,hb⟩
theorem clo_row : (Tryz.prog.info? 119).map (fun i=>(i.zero,i.size,i.bytes)) = some (some .nilFunc,1,8):=by kernel_rfl
theorem append_clo {ops : Array Oper} {rest : List Oper} {o : Oper} {a : Act} {Q : Exit -> Act -> World -> Prop} {W : World} (hgd : o.guard = none) (s x : Operand)
  (ho : o.op = .call { callee:=.builtin .append,args:=#[s,x],argTypes:=#[109,109] })
  (v : Value) (n : Nat) (xs : List Value) (c : Nat) (hs : a.eval s = v) (hown : W.ownsRow 0 119 1 v n xs) (N : Nat) (hN : N = W.heap.size) (hx : a.eval x = .slice (some ⟨N,0,none⟩) 1 1)
  (hn : n <= 1000000)
  (h : ∀ v' w',w'.ownsRow 0 119 1 v' (n + 1) (xs ++ [clo c]) -> W.grownBy w' v.ownBlock -> (v'.ownBlock = v.ownBlock \/ ∀ k,v'.ownBlock = some k -> W.heap.size <= k) -> wpList Tryz.prog ops Q rest (a.put o.dst v') w') :
  wpList Tryz.prog ops Q (o :: rest) a (W.alloc (.cells #[clo c] 119)):=by
 subst hN
 obtain ⟨i0,hi,hz0,hz1,hz2⟩:=info_parts clo_row
 exact append_new hgd s x 109 119 119 ho 0 i0 .nilFunc 1 8 Tryz.underlying109 hi hz0 hz1 hz2 rfl (by decide) (by decide) v n xs hs hown hx #[clo c] rfl (by intro u hu;simp at hu;subst hu;rfl) (by omega) (Nat.zero_le _) h
theorem app_cell {W w' : World} {F : Nat -> Prop} {d bn bs N : Nat} {v : Value} {nw su : List ByteArray} {L : List (Nat × Nat × ByteArray)} (h : DkW W F d bn bs N v nw su L) (hg : W.grownBy w' v.ownBlock) :
  w'.cell? ⟨d,3,none⟩ = some v /\ w'.frozen? ⟨d,3,none⟩ = false /\ d < w'.heap.size:=by
 have he:=hg.block d (h.lt d h.fd) (fun e=>(h.ev d e.symm).1 rfl)
 exact ⟨(World.cell?_of_block (a:=⟨d,3,none⟩) he).trans h.c3,(World.frozen?_of_block (a:=⟨d,3,none⟩) he).trans h.z3,Nat.lt_of_lt_of_le (h.lt d h.fd) hg.size⟩
theorem DkW.app {W w' : World} {F : Nat -> Prop} {d bn bs N : Nat} {v v' : Value} {nw su : List ByteArray} {L : List (Nat × Nat × ByteArray)} (h : DkW W F d bn bs N v nw su L) {c k : Nat} {s : ByteArray}
  (own' : w'.ownsRow 0 119 1 v' (L.length + 1) ((L.map fun p=>clo p.1) ++ [clo c])) (hg : W.grownBy w' v.ownBlock) (hv : v'.ownBlock = v.ownBlock \/ ∀ k,v'.ownBlock = some k -> W.heap.size <= k)
  (b1 : Box W c 3 (.int .i64 (k : Int))) (b2 : Box W (c + 1) 9 (.string s)) (hf1 : ¬ F c) (hf2 : ¬ F (c + 1)) (hk : k < N) (hs : s.size <= 128) :
  DkW (w'.setCell ⟨d,3,none⟩ v') (fun b=>F b \/ b = c \/ b = c + 1 \/ (W.heap.size <= b /\ b < w'.heap.size)) d bn bs N v' nw su (L ++ [(c,k,s)]) /\
  (w'.setCell ⟨d,3,none⟩ v').os = W.os /\ (w'.setCell ⟨d,3,none⟩ v').tape = W.tape /\ (w'.setCell ⟨d,3,none⟩ v').output = W.output /\ W.heap.size <= (w'.setCell ⟨d,3,none⟩ v').heap.size /\ (∀ b,b < W.heap.size -> ¬ F b -> (w'.setCell ⟨d,3,none⟩ v').heap[b]? = W.heap[b]?):=by
 have hd:=h.lt d h.fd
 have keep : ∀ b,b < W.heap.size -> b ≠ d -> (v.ownBlock = some b -> False) -> (w'.setCell ⟨d,3,none⟩ v').heap[b]? = W.heap[b]?:=fun b hb hbd hbv =>
  (heap_set_ne w' _ _ hbd).trans (hg.block b hb (fun e=>hbv e.symm))
 have hsz:=hg.size
 have vne : ∀ b,F b -> b ≠ d -> b ≠ bn /\ b ≠ bs \/ b = bn \/ b = bs:=fun b _ _=>by omega
 have e1 : ∀ g,v'.ownBlock = some g -> (v.ownBlock = some g \/ W.heap.size <= g):=fun g hg'=>hv.elim (fun e=>.inl (e ▸ hg')) (fun e=>.inr (e g hg'))
 have gd : ∀ g,v'.ownBlock = some g -> g ≠ d /\ g ≠ bn /\ g ≠ bs /\ g < w'.heap.size:=fun g hg'=>by
  have hlt:=(own'.lt g hg').2
  rcases e1 g hg' with h1 | h1
  ·have:=h.ev g h1
   omega
  ·have:=h.lt bn h.fn
   have:=h.lt bs h.fs
   omega
 have hc1 : c ≠ d:=fun e=>hf1 (e ▸ h.fd)
 have hc2 : c + 1 ≠ d:=fun e=>hf2 (e ▸ h.fd)
 have hc3 : c ≠ bn:=fun e=>hf1 (e ▸ h.fn)
 have hc4 : c + 1 ≠ bn:=fun e=>hf2 (e ▸ h.fn)
 have hc5 : c ≠ bs:=fun e=>hf1 (e ▸ h.fs)
 have hc6 : c + 1 ≠ bs:=fun e=>hf2 (e ▸ h.fs)
 have l1:=b1.lt
 have l2:=b2.lt
 have hbox : w'.heap[d]? = some (.cells #[.pointer (some ⟨d,0,none⟩),.slice (some ⟨bn,0,none⟩) N N,.slice (some ⟨bs,0,none⟩) N N,v] 111 (0,0)):=(hg.block d hd (fun e=>(h.ev d e.symm).1 rfl)).trans h.box
 refine ⟨{
  box:=by simp [World.setCell,Array.getElem?_modify,hbox]
  now:=h.now.keep (keep bn (h.lt bn h.fn) h.e1.symm (fun e=>(h.ev bn e).2.1 rfl))
  sure:=h.sure.keep (keep bs (h.lt bs h.fs) h.e2.symm (fun e=>(h.ev bs e).2.2.1 rfl))
  ln:=h.ln
  ls:=h.ls
  own:=by
   rw [List.map_append,List.length_append]
   exact own_keep own' fun g hg'=>heap_set_ne w' _ _ (gd g hg').1
  boxes:=fun p hp=>by
   rcases List.mem_append.1 hp with hp | hp
   ·have hb:=h.boxes p hp
    have he:=h.eb p hp
    exact ⟨hb.1.keep (keep _ hb.1.lt he.1 (fun e=>((h.ev _ e).2.2.2 p hp).1 rfl)),hb.2.1.keep (keep _ hb.2.1.lt he.2.2.2.1 (fun e=>((h.ev _ e).2.2.2 p hp).2 rfl)),hb.2.2⟩
   ·simp only [List.mem_singleton] at hp
    subst hp
    exact ⟨b1.keep (keep _ l1 hc1 (fun e=>hf1 (h.fv _ e))),b2.keep (keep _ l2 hc2 (fun e=>hf2 (h.fv _ e))),hk,hs⟩
  e1:=h.e1
  e2:=h.e2
  e3:=h.e3
  ev:=fun g hg'=>by
   have hh:=gd g hg'
   refine ⟨hh.1,hh.2.1,hh.2.2.1,fun p hp=>?_⟩
   rcases List.mem_append.1 hp with hp | hp
   ·rcases e1 g hg' with h1 | h1
    ·exact (h.ev g h1).2.2.2 p hp
    ·have:=h.lt _ (h.fb p hp).1
     have:=h.lt _ (h.fb p hp).2
     omega
   ·simp only [List.mem_singleton] at hp
    subst hp
    rcases e1 g hg' with h1 | h1
    ·have hF:=h.fv g h1
     exact ⟨fun e=>hf1 (by simp only at e;rw [e];exact hF),fun e=>hf2 (by simp only at e;rw [e];exact hF)⟩
    ·simp only
     omega
  eb:=fun p hp=>by
   rcases List.mem_append.1 hp with hp | hp
   ·exact h.eb p hp
   ·simp only [List.mem_singleton] at hp
    subst hp
    exact ⟨hc1,hc3,hc5,hc2,hc4,hc6⟩
  fd:=.inl h.fd
  fn:=.inl h.fn
  fs:=.inl h.fs
  fv:=fun g hg'=>by
   rcases e1 g hg' with h1 | h1
   ·exact .inl (h.fv g h1)
   ·exact .inr (.inr (.inr ⟨h1,(gd g hg').2.2.2⟩))
  fb:=fun p hp=>by
   rcases List.mem_append.1 hp with hp | hp
   ·exact ⟨.inl (h.fb p hp).1,.inl (h.fb p hp).2⟩
   ·simp only [List.mem_singleton] at hp
    subst hp
    exact ⟨.inr (.inl rfl),.inr (.inr (.inl rfl))⟩
  lt:=fun b hb=>by
   rw [World.size_setCell]
   rcases hb with hb | rfl | rfl | hb
   ·have:=h.lt b hb
    omega
   ·omega
   ·omega
   ·exact hb.2 },⟨hg.os,hg.tape,hg.output,by rw [World.size_setCell];exact hg.size,fun b hb hf=>keep b hb (fun e=>hf (e ▸ h.fd)) (fun e=>hf (h.fv _ e))⟩⟩
section
variable {w w' : World} {F : Nat -> Prop} {d bn bs N : Nat} {v : Value} {nw su : List ByteArray} {L : List (Nat × Nat × ByteArray)}
theorem get_yes (h : DkW w F d bn bs N v nw su L) (k : Nat) (hk : k < N) : Calls Tryz.prog 141 #[.pointer (some ⟨d,0,none⟩),.int .i64 (k : Int)] w fun e w'=>e = .returned (.tuple #[.string (nw.getD k ⟨#[]⟩),.int .i64 0]) /\ ∃ q,w' = w.drewN q:=by
 have hh:=has_yes h k hk
 have hkz : (k : Int) < (N : Int):=by omega
 have hu : ∀ q,(w.drewN q).cell? ⟨bn,k,none⟩ = some (.string (nw.getD k ⟨#[]⟩)):=fun q=>h.now.cell (strs_get (by rw [h.ln];exact hk))
 generalize nw.getD k ⟨#[]⟩ = t at *
 go_enter Tryz.func141,Tryz.ntmps141
 go_wp2_with fail
 refine hh.mono ?_
 rintro e w1 ⟨rfl,q,rfl⟩
 have hc:=(h.drewN q).c1
 have hl:=(h.drewN q).lt d h.fd
 have hl2:=(h.drewN q).lt bn h.fn
 have hu:=hu q
 clear h hh
 go_wp2
 go_ret2
 exact ⟨rfl,_,rfl⟩
theorem below_put {w W2 w3 : World} {q k : Nat} {s : ByteArray} (hb : Below (W2.drewN q).heap.size (W2.drewN q) w3)
  (H : DkW W2 F d bn bs N v nw su L /\ Box W2 w.heap.size 3 (.int .i64 (k : Int)) /\ Box W2 (w.heap.size + 1) 9 (.string s) /\ W2.heap.size = w.heap.size + 2 /\ Turn F w F W2) :
  DkW w3 F d bn bs N v nw su L /\ Box w3 w.heap.size 3 (.int .i64 (k : Int)) /\ Box w3 (w.heap.size + 1) 9 (.string s) /\ w.heap.size + 2 <= w3.heap.size /\ Turn F w F w3:=by
 obtain ⟨h,b1,b2,hs,ht⟩:=H
 have hk : ∀ b,b < W2.heap.size -> w3.heap[b]? = W2.heap[b]?:=fun b hb'=>hb.block b hb'
 have hsz : W2.heap.size <= w3.heap.size:=hb.size
 exact ⟨h.keep (fun b hb'=>hk b (h.lt b hb')) hsz,b1.keep (hk _ b1.lt),b2.keep (hk _ b2.lt),by omega,ht.trans ((Turn.drewN F W2 q).trans (Turn.below F hb))⟩
theorem put_ok (h : DkW w F d bn bs N v nw su L) (k : Nat) (hk : k < N) (s : ByteArray) (hs : s.size <= 128) (hL : L.length <= 1000000) : Calls Tryz.prog 144 #[.pointer (some ⟨d,0,none⟩),.int .i64 (k : Int),.string s] w fun e w' =>
  e = .returned (.int .i64 0) /\ ∃ F' v',DkW w' F' d bn bs N v' (nw.set k s) su (L ++ [(w.heap.size,k,s)]) /\ Turn F w F' w':=by
 have hkz : (k : Int) < (N : Int):=by omega
 have hsz : (s.size : Int) <= 128:=by omega
 obtain ⟨W2,hW2⟩ : ∃ W2,W2 = (w.alloc (.cells #[.int .i64 (k : Int)] 3)).alloc (.cells #[.string s] 9):=⟨_,rfl⟩
 have h2 : DkW W2 F d bn bs N v nw su L:=by rw [hW2];exact (h.alloc _).alloc _
 have hh:=has_yes h2 k hk
 have hcl:=clone_any s (by omega)
 have hb1 : Box W2 w.heap.size 3 (.int .i64 (k : Int)):=by rw [hW2];exact (Box.new w 3 _).keep (heap_alloc_lt _ _ (by simp))
 have hb2 : Box W2 (w.heap.size + 1) 9 (.string s):=by rw [hW2];have:=Box.new (w.alloc (.cells #[.int .i64 (k : Int)] 3)) 9 (.string s);simpa using this
 have hsz2 : W2.heap.size = w.heap.size + 2:=by rw [hW2];simp
 have ht2 : Turn F w F W2:=by rw [hW2];exact (Turn.alloc F w _).trans (Turn.alloc F _ _)
 have hl1:=hb1.cell
 have hl2:=hb2.cell
 have hlt1:=hb1.lt
 have hlt2:=hb2.lt
 have hne : d ≠ w.heap.size + 1 /\ bn ≠ w.heap.size + 1:=by have:=h.lt d h.fd;have:=h.lt bn h.fn;omega
 have HH:=Lib.hid hh
 have HC:=Lib.hid hcl
 have H2:=Lib.hid (And.intro h2 (And.intro hb1 (And.intro hb2 (And.intro hsz2 ht2))))
 clear hh hcl h2 hb1 hb2 hsz2 ht2
 go_enter Tryz.func144,Tryz.ntmps144
 go_wp2_with fail
 rw [<- hW2]
 clear hW2
 go_at_call 178
 refine HH.out.mono ?_
 rintro e w1 ⟨rfl,q,rfl⟩
 go_wp2_with (go_at_call 138;refine (HC.out _).mono ?_;rintro e w3 ⟨rfl,hb3⟩;obtain ⟨h3,b31,b32,hlt3,ht3⟩:=below_put hb3 H2.out;have cb:=b32.cell;have zb:=b32.frozen)
 obtain ⟨W4,hW4⟩ : ∃ W4,W4 = w3.setCell ⟨w.heap.size + 1,0,none⟩ (.string s):=⟨_,rfl⟩
 have hnF1 : ¬ F (w.heap.size + 1):=fun hf=>by have:=h.lt _ hf;omega
 have h4 : DkW W4 F d bn bs N v nw su L:=by rw [hW4];exact h3.set hnF1 _
 have b41 : Box W4 w.heap.size 3 (.int .i64 (k : Int)):=by rw [hW4];exact b31.keep (heap_set_ne _ _ _ (by show w.heap.size ≠ w.heap.size + 1;omega))
 have b42 : Box W4 (w.heap.size + 1) 9 (.string s):=by rw [hW4];exact b32.set _
 have hs4 : W4.heap.size = w3.heap.size:=by rw [hW4];simp
 have t4 : Turn F w F W4:=⟨by rw [hW4];exact ht3.os,by rw [hW4];exact ht3.tape,by rw [hW4];exact ht3.output,by have:=ht3.size;omega,fun b hb hf=>by rw [hW4];exact (heap_set_ne _ _ _ (by show b ≠ w.heap.size + 1;omega)).trans (ht3.block b hb hf),fun _ hh=>.inl hh⟩
 have hlt4 : w.heap.size + 2 <= W4.heap.size:=by omega
 rw [<- hW4]
 clear hW4 hs4 ht3 h3 b31 b32 hb3 cb zb hlt3 hl1 hl2 hlt1 hlt2 HH HC H2 w3
 have c1:=h4.c1
 have ca:=b41.cell
 have cb:=b42.cell
 have ld:=h4.lt d h4.fd
 have ln:=h4.lt bn h4.fn
 have zn:=h4.now.frozen k
 have cn:=h4.now.cell (strs_get (j:=k) (by rw [h4.ln];exact hk))
 generalize nw.getD k ⟨#[]⟩ = tt at cn
 have H4:=Lib.hid (And.intro h (And.intro h4 (And.intro b41 (And.intro b42 (And.intro t4 (And.intro hlt4 hnF1))))))
 clear h h4 b41 b42 t4 hnF1
 have la : w.heap.size < W4.heap.size:=by omega
 have lb : w.heap.size + 1 < W4.heap.size:=by omega
 go_region
 all_goals
  obtain ⟨hh,h4,b41,b42,t4,hlt4',hnF1⟩:=H4.out
  obtain ⟨W5,hW5⟩ : ∃ W5,W5 = (W4.setCell ⟨bn,k,none⟩ (.string s)).drew:=⟨_,rfl⟩
  have h5 : DkW W5 F d bn bs N v (nw.set k s) su L:=by rw [hW5];exact (h4.setNow k s).drewN 1
  have b51 : Box W5 w.heap.size 3 (.int .i64 (k : Int)):=by rw [hW5];exact b41.keep (heap_set_ne _ _ _ (fun e=>by have:=hh.lt bn hh.fn;simp only at e;omega))
  have b52 : Box W5 (w.heap.size + 1) 9 (.string s):=by rw [hW5];exact b42.keep (heap_set_ne _ _ _ (fun e=>hne.2 e.symm))
  have t5 : Turn F w F W5:=by rw [hW5];exact (t4.trans (Turn.set F W4 (a:=⟨bn,k,none⟩) h4.fn _)).trans (Turn.drewN F _ 1)
  have hs5 : W4.heap.size = W5.heap.size:=by rw [hW5];simp [World.drew]
  rw [<- hW5]
  rw [hs5] at hlt4' ld
  have hnF0 : ¬ F w.heap.size:=fun hf=>by have:=hh.lt _ hf;omega
  have c3:=h5.c3
  have z3:=h5.z3
  have H5:=Lib.hid (And.intro hh (And.intro h5 (And.intro b51 (And.intro b52 (And.intro t5 (And.intro hlt4' (And.intro hnF0 hnF1)))))))
  clear hW5 hh h4 b41 b42 t4 hnF1 h5 b51 b52 t5 hnF0 H4 c1 ca cb zn cn la lb hs5 ln hlt4 hlt4' W4
  go_wp2_with (at_builtin;refine append_clo rfl (.tmp 29) (.tmp 31) rfl v L.length (L.map fun p=>clo p.1) w.heap.size rfl H5.out.2.1.own W5.heap.size (by simp) rfl hL ?_;intro v' w' hown hg hv;obtain ⟨A1,cp1,rfl,hq1,hq2⟩:=own_shape hown;have hdb:=app_cell H5.out.2.1 hg;have hc3:=hdb.1;have hz3:=hdb.2.1;have hld:=hdb.2.2)
  go_ret
  obtain ⟨hh,h5,b51,b52,t5,hlt5,hnF0,hnF1⟩:=H5.out
  obtain ⟨r1,r2,r3,r4,r5,r6⟩:=h5.app hown hg hv b51 b52 hnF0 hnF1 hk hs
  refine ⟨rfl,_,_,r1,r2.trans t5.os,r3.trans t5.tape,r4.trans t5.output,Nat.le_trans t5.size r5,fun b hb hf=>(r6 b (by omega) hf).trans (t5.block b hb hf),fun b hb=>?_⟩
  rcases hb with hb | rfl | rfl | hb
  ·exact .inl hb
  ·exact .inr (Nat.le_refl _)
  ·exact .inr (by omega)
  ·exact .inr (by omega)
end
end
section
open Go Go.RowKit
def sets (L : List (Nat × Nat × ByteArray)) (su : List ByteArray) : List ByteArray:=L.foldl (fun s p=>s.set p.2.1 p.2.2) su
theorem sets_take (L : List (Nat × Nat × ByteArray)) (su : List ByteArray) (k : Nat) (h : k < L.length) : sets (L.take (k + 1)) su = (sets (L.take k) su).set (L[k]'h).2.1 (L[k]'h).2.2:=by
 unfold sets
 rw [List.take_succ_eq_append_getElem h,List.foldl_append]
 rfl
section
variable {w w' : World} {F : Nat -> Prop} {d bn bs N : Nat} {v : Value} {nw su : List ByteArray} {L : List (Nat × Nat × ByteArray)}
theorem DkW.loose_at (h : DkW w F d bn bs N v nw su L) {k : Nat} (hk : k < L.length) : ∃ g c,v = .slice (some ⟨g,0,none⟩) L.length c /\ g < w.heap.size /\ w.cell? ⟨g,k,none⟩ = some (.func (.func 179) #[] #[.pointer (some ⟨L[k].1,0,none⟩),.pointer (some ⟨L[k].1 + 1,0,none⟩)]):=by
 have ho:=h.own
 obtain ⟨g,c,rfl,_,hlt⟩:=ho.form (by omega)
 refine ⟨g,c,rfl,hlt,?_⟩
 have:=ho.cells (g:=g) rfl k (clo L[k].1) (by rw [List.getElem?_map,List.getElem?_eq_getElem hk];rfl)
 rw [add_flat,Nat.zero_add] at this
 exact this
theorem sync_any (h : DkW w F d bn bs N v nw su L) (hL : L.length <= 1000000) : Calls Tryz.prog 100 #[.pointer (some ⟨d,0,none⟩)] w fun e w'=>e = .returned (.int .i64 0) /\ DkW w' F d bn bs N (.slice none 0 0) nw (sets L su) [] /\ Turn F w F w':=by
 have hg:=given_any h
 obtain ⟨A,c,rfl,hq1,hq2⟩:=own_shape h.own
 have HG:=Lib.hid hg
 have H:=Lib.hid (And.intro h (And.intro hq1 hq2))
 clear h hg hq1 hq2
 go_enter Tryz.func100,Tryz.ntmps100
 go_wp2_with fail
 go_at_call 57
 refine HG.out.mono ?_
 rintro e w1 ⟨rfl,q,rfl⟩
 have hc:=(H.out.1.drewN q).c3
 have hl:=(H.out.1.drewN q).lt d H.out.1.fd
 go_wp2_with fail
 go_loopw [13] (fun i wr=>∃ k : Nat,i = .int .i64 (k : Int) /\ k <= L.length /\ DkW wr F d bn bs N (.slice A L.length c) nw (sets (L.take k) su) L /\ Turn F w F wr) (fun i _=>L.length - (intOf i).toNat)
 case atStart=>exact ⟨0,rfl,Nat.zero_le _,H.out.1.drewN q,Turn.drewN F w q⟩
 case round =>
  obtain ⟨k,rfl,hk,hD,hT⟩:=hrel
  by_cases hlt : k < L.length
  ·have hltz : (k : Int) < (L.length : Int):=by omega
   obtain ⟨g,c',hv,hg,hcell⟩:=hD.loose_at hlt
   have hka:=again_keep hD L[k] (List.getElem_mem _)
   obtain ⟨⟨p1,p2,p3⟩,hp⟩ : ∃ p,L[k] = p:=⟨_,rfl⟩
   rw [hp] at hcell hka
   simp only at hcell hka
   injection hv with hA _ hcc
   subst hA hcc
   have HD:=Lib.hid (And.intro hD hT)
   have HP:=Lib.hid hp
   clear hD hT hp
   go_wp2_with (go_at_call 179;refine hka.mono ?_;rintro e w3 ⟨rfl,rfl⟩)
   have hN : DkW (wr.setCell ⟨bs,p2,none⟩ (.string p3)) F d bn bs N (.slice (some ⟨g,0,none⟩) L.length c) nw (sets (L.take (k + 1)) su) L:=by
    have:=HD.out.1.setSure p2 p3
    rw [sets_take L su k hlt,HP.out]
    exact this
   have hT : Turn F w F (wr.setCell ⟨bs,p2,none⟩ (.string p3)):=HD.out.2.trans (Turn.set F _ (a:=⟨bs,p2,none⟩) HD.out.1.fs _)
   go_roundw
   case rel=>exact ⟨k + 1,by go_num,by omega,hN,hT⟩
   case measure=>simp [intOf];omega
  ·obtain rfl : k = L.length:=by omega
   have hnl : ¬ (L.length : Int) < (L.length : Int):=by omega
   have HD:=Lib.hid (And.intro hD hT)
   have hl:=hD.lt d hD.fd
   have hc:=hD.c3
   have hz:=hD.z3
   clear hD hT
   go_wp2_with fail
   go_ret
   refine ⟨rfl,?_,HD.out.2.trans (Turn.set F _ (a:=⟨d,3,none⟩) HD.out.1.fd _)⟩
   have:=HD.out.1.clear
   rw [List.take_length] at this
   exact this
end
end
section
open Go Go.RowKit
def forgets (L : List (Nat × Nat × ByteArray)) (su nw : List ByteArray) : List ByteArray:=L.foldl (fun s p=>s.set p.2.1 (su.getD p.2.1 ⟨#[]⟩)) nw
theorem forgets_take (L : List (Nat × Nat × ByteArray)) (su nw : List ByteArray) (k : Nat) (h : k < L.length) : forgets (L.take (k + 1)) su nw = (forgets (L.take k) su nw).set (L[k]'h).2.1 (su.getD (L[k]'h).2.1 ⟨#[]⟩):=by
 unfold forgets
 rw [List.take_succ_eq_append_getElem h,List.foldl_append]
 rfl
def tornS (p : Nat × Nat × ByteArray) (su : List ByteArray) (torn : Int) : List ByteArray:=su.set p.2.1 (tearB p.2.2 (su.getD p.2.1 ⟨#[]⟩) (shr torn p.2.2.size))
theorem sets_small {L : List (Nat × Nat × ByteArray)} (hL : ∀ p ∈ L,p.2.2.size <= 128) : ∀ su : List ByteArray,(∀ s ∈ su,s.size <= 128) -> ∀ s ∈ sets L su,s.size <= 128:=by
 induction L with
 | nil=>intro su h;exact h
 | cons p L ih =>
  intro su h
  refine ih (fun q hq=>hL q (List.mem_cons_of_mem _ hq)) _ fun s hs=>?_
  rcases List.mem_or_eq_of_mem_set hs with h1 | h1
  ·exact h s h1
  ·rw [h1];exact hL p (List.mem_cons_self ..)
theorem getD_small {su : List ByteArray} (h : ∀ s ∈ su,s.size <= 128) (k : Nat) : (su.getD k ⟨#[]⟩).size <= 128:=by
 rw [List.getD_eq_getElem?_getD]
 rcases hk : su[k]? with _ | s
 ·exact Nat.zero_le _
 ·exact h s (List.mem_of_getElem? hk)
section
variable {w w' : World} {F : Nat -> Prop} {d bn bs N : Nat} {v : Value} {nw su : List ByteArray} {L : List (Nat × Nat × ByteArray)}
theorem again_tear (h : DkW w F d bn bs N v nw su L) (p : Nat × Nat × ByteArray) (hp : p ∈ L) (hsu : ∀ s ∈ su,s.size <= 128) (b1 b2 : Nat) (hb1 : Box w b1 36 (.pointer (some ⟨d,0,none⟩))) (torn : Int) (ht1 : -9223372036854775808 <= torn) (ht2 : torn <= 9223372036854775807) (hb2 : Box w b2 3 (.int .i64 torn)) (hn1 : ¬ F b1) (hn2 : ¬ F b2) :
  Calls Tryz.prog 179 #[.func (.func 60) #[] #[.pointer (some ⟨b1,0,none⟩),.pointer (some ⟨b2,0,none⟩)],.pointer (some ⟨p.1,0,none⟩),.pointer (some ⟨p.1 + 1,0,none⟩)] w fun e w'=>e = .returned (.tuple #[]) /\ DkW w' F d bn bs N v nw (tornS p su torn) L /\ Turn F w F w' /\ ∀ b,¬ F b -> w'.heap[b]? = w.heap[b]?:=by
 have hb:=h.boxes p hp
 obtain ⟨c,k,s⟩:=p
 have h1:=hb.1.cell
 have h2:=hb.2.1.cell
 have hl1:=hb.1.lt
 have hl2:=hb.2.1.lt
 have hk:=tears_any h b1 b2 hb1 torn ht1 ht2 hb2 k hb.2.2.1 s (by have:=hb.2.2.2;simp only at this;omega) (by have:=getD_small hsu k;omega) (fun e=>hn1 (e ▸ h.fs)) (fun e=>hn2 (e ▸ h.fs))
 have H:=Lib.hid h
 have HK:=Lib.hid hk
 simp only at h1 h2 hl1 hl2 ⊢
 clear h hb hk
 go_enter Tryz.func179,Tryz.ntmps179
 go_wp2_with fail
 go_at_call 60
 refine HK.out.mono ?_
 rintro e w1 ⟨rfl,q,rfl⟩
 go_wp2_with fail
 go_end0
 exact ⟨rfl,(H.out.drewN q).setSure k _,(Turn.drewN F w q).trans (Turn.set F _ (a:=⟨bs,k,none⟩) H.out.fs _),fun b hb=>heap_set_ne (w.drewN q) ⟨bs,k,none⟩ _ (fun e=>hb (e ▸ H.out.fs))⟩
theorem fail_all (h : DkW w F d bn bs N v nw su L) (hL : L.length <= 1000000) (keep torn : Int) (hk1 : -9223372036854775808 <= keep) (hk2 : keep <= 9223372036854775807) (hall : shr keep L.length = L.length) :
  Calls Tryz.prog 30 #[.pointer (some ⟨d,0,none⟩),.int .i64 keep,.int .i64 torn] w fun e w'=>e = .returned (.int .i64 0) /\ DkW w' F d bn bs N (.slice none 0 0) nw (sets L su) [] /\ Turn F w F w':=by
 obtain ⟨A,c,rfl,hq1,hq2⟩:=own_shape h.own
 obtain ⟨W2,hW2⟩ : ∃ W2,W2 = (w.alloc (.cells #[.pointer (some ⟨d,0,none⟩)] 36)).alloc (.cells #[.int .i64 torn] 3):=⟨_,rfl⟩
 have h2 : DkW W2 F d bn bs N (.slice A L.length c) nw su L:=by rw [hW2];exact (h.alloc _).alloc _
 have hb1 : Box W2 w.heap.size 36 (.pointer (some ⟨d,0,none⟩)):=by rw [hW2];exact (Box.new w 36 _).keep (heap_alloc_lt _ _ (by simp))
 have ht2 : Turn F w F W2:=by rw [hW2];exact (Turn.alloc F w _).trans (Turn.alloc F _ _)
 have hnF : ¬ F w.heap.size:=fun hf=>by have:=h.lt _ hf;omega
 have hg:=given_any h2
 have hsh:=share_any keep L.length hk1 hk2 hL
 rw [hall] at hsh
 have HG:=Lib.hid hg
 have HS:=Lib.hid hsh
 have H:=Lib.hid (And.intro h2 (And.intro hb1 (And.intro ht2 hnF)))
 have hl1:=hb1.lt
 have hc1:=hb1.cell
 clear h h2 hb1 ht2 hg hsh hall
 go_enter Tryz.func30,Tryz.ntmps30
 go_wp2_with fail
 rw [<- hW2]
 clear hW2
 go_at_call 57
 refine HG.out.mono ?_
 rintro e w1 ⟨rfl,q,rfl⟩
 have hc:=H.out.1.c3
 have hl:=H.out.1.lt d H.out.1.fd
 go_wp2_with (go_at_call 58;refine (HS.out _).mono ?_;rintro e w3 ⟨rfl,rfl⟩)
 go_quiet (fail)
 obtain ⟨W3,hq⟩ : ∃ W3,W3 = (W2.drewN q).drewN nq:=⟨_,rfl⟩
 have H3:=Lib.hid (show DkW W3 F d bn bs N (.slice A L.length c) nw su L /\ Turn F w F W3 /\ Box W3 w.heap.size 36 (.pointer (some ⟨d,0,none⟩)) by rw [hq];exact ⟨(H.out.1.drewN q).drewN nq,H.out.2.2.1.trans ((Turn.drewN F _ q).trans (Turn.drewN F _ nq)),H.out.2.1⟩)
 rw [<- hq]
 clear hq
 generalize (if c = L.length then A else Option.map (fun x=>x.add L.length) A) = A2
 generalize c - L.length = c2
 go_wp2_with fail
 go_loopw [38] (fun i wr=>∃ k : Nat,i = .int .i64 (k : Int) /\ k <= L.length /\ DkW wr F d bn bs N (.slice A L.length c) nw (sets (L.take k) su) L /\ Turn F w F wr /\ Box wr w.heap.size 36 (.pointer (some ⟨d,0,none⟩))) (fun i _=>L.length - (intOf i).toNat)
 case atStart=>exact ⟨0,rfl,Nat.zero_le _,H3.out.1,H3.out.2.1,H3.out.2.2⟩
 case round =>
  obtain ⟨k,rfl,hk,hD,hT,hB⟩:=hrel
  by_cases hlt : k < L.length
  ·have hltz : (k : Int) < (L.length : Int):=by omega
   obtain ⟨g,c',hv,hg,hcell⟩:=hD.loose_at hlt
   have hka:=again_keep hD L[k] (List.getElem_mem _)
   obtain ⟨⟨p1,p2,p3⟩,hp⟩ : ∃ p,L[k] = p:=⟨_,rfl⟩
   rw [hp] at hcell hka
   simp only at hcell hka
   injection hv with hA _ hcc
   subst hA hcc
   have hcb:=hB.cell
   have hlb:=hB.lt
   have HD:=Lib.hid (And.intro hD (And.intro hT hB))
   have HP:=Lib.hid hp
   clear hD hT hp hB
   go_wp2_with (go_at_call 179;refine hka.mono ?_;rintro e w3 ⟨rfl,rfl⟩)
   have hN : DkW (wr.setCell ⟨bs,p2,none⟩ (.string p3)) F d bn bs N (.slice (some ⟨g,0,none⟩) L.length c) nw (sets (L.take (k + 1)) su) L:=by
    have:=HD.out.1.setSure p2 p3
    rw [sets_take L su k hlt,HP.out]
    exact this
   have hT : Turn F w F (wr.setCell ⟨bs,p2,none⟩ (.string p3)):=HD.out.2.1.trans (Turn.set F _ (a:=⟨bs,p2,none⟩) HD.out.1.fs _)
   go_roundw
   case rel=>exact ⟨k + 1,by go_num,by omega,hN,hT,HD.out.2.2.keep (heap_set_ne _ _ _ (fun e=>H.out.2.2.2 (e ▸ HD.out.1.fs)))⟩
   case measure=>simp [intOf];omega
  ·obtain rfl : k = L.length:=by omega
   have hnl : ¬ (L.length : Int) < (L.length : Int):=by omega
   have hcb:=hB.cell
   have hlb:=hB.lt
   have HD:=Lib.hid (And.intro hD (And.intro hT hB))
   have hl:=hD.lt d hD.fd
   have hc:=hD.c3
   have hz:=hD.z3
   clear hD hT
   go_wp2_with fail
   go_loopw [57] (fun i wr2=>i = .int .i64 0 /\ wr2 = wr) (fun i _=>0)
   case atStart=>exact ⟨rfl,rfl⟩
   case round =>
    obtain ⟨rfl,rfl⟩:=hrel
    go_wp2_with fail
    go_ret
    refine ⟨rfl,?_,HD.out.2.1.trans (Turn.set F _ (a:=⟨d,3,none⟩) HD.out.1.fd _)⟩
    have:=HD.out.1.clear
    rw [List.take_length] at this
    exact this
end
end
end Go.Proofs.YtegjjhjgfkcbhaaGreatDoor
