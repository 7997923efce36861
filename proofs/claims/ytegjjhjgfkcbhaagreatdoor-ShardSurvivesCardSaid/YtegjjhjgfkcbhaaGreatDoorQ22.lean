/- EText SVal. Conditions: as each part says. -/
import Derived.Test.YtegjjhjgfkcbhaaGreatDoorQ08
set_option linter.unusedVariables false
set_option linter.unusedSimpArgs false
set_option maxRecDepth 100000
set_option maxHeartbeats 16000000
namespace Go.Proofs.YtegjjhjgfkcbhaaGreatDoor
namespace Be
section
open Go Go.RowKit
structure TRel (q : List E) (w0 : World) (v : Value) (wr : World) (k : Nat) (xs : List Value) : Prop where
 own : wr.ownsRow w0.heap.size 202 4 v (rowsFrom 0 (q.take k)).length xs
 bel : Below w0.heap.size w0 wr
 rdl : RdL (fun b=>w0.heap.size <= b /\ some b ≠ v.ownBlock) wr (rowsFrom 0 (q.take k)) xs
theorem own_lt' {w : World} {base : Nat} {e : TypeId} {size : Nat} {v : Value} {n : Nat} {xs : List Value} (h : w.ownsRow base e size v n xs) : ∀ g,v.ownBlock = some g -> base <= g /\ g < w.heap.size:=fun g hg=>own_lt h g hg
theorem TRel.step {q : List E} {w0 : World} {v v' : Value} {wr w1 w2 : World} {k : Nat} {xs cs : List Value} (h : TRel q w0 v wr k xs) (hk : k < q.length) (hs : 0 < q[k]!.s) (hb1 : Below wr.heap.size wr w1)
  (ht : Rd (fun b=>wr.heap.size <= b) w1 (rowT k q[k]!) cs) (hown : w2.ownsRow w0.heap.size 202 4 v' ((rowsFrom 0 (q.take k)).length + 1) (xs ++ cs)) (hgr : w1.grownBy w2 v.ownBlock) (hb : v'.ownBlock = v.ownBlock \/ ∀ k,v'.ownBlock = some k -> w1.heap.size <= k) : TRel q w0 v' w2 (k + 1) (xs ++ cs):=by
 have hlt:=own_lt h.own
 have hs0:=h.bel.size
 have hs1:=hb1.size
 refine ⟨?_,?_,?_⟩
 ·rw [rows_yes q hk hs,List.length_append]
  exact hown
 ·exact (h.bel.trans (hb1.mono hs0)).grown hgr (by omega) (fun g hg=>(hlt g hg).1)
 ·rw [rows_yes q hk hs]
  refine rdl_more (w0:=wr) (RdL.keep ?_ _ _ h.rdl) ht hs0 (fun g hg=>(hlt g hg).2) hgr hb
  exact Keeps.of_below hb1 (fun b _ hb=>hb)
theorem TRel.skip {q : List E} {w0 : World} {v : Value} {wr w1 : World} {k : Nat} {xs : List Value} (h : TRel q w0 v wr k xs) (hk : k < q.length) (hs : ¬ 0 < q[k]!.s) (hb1 : Below wr.heap.size wr w1) : TRel q w0 v w1 (k + 1) xs:=by
 refine ⟨?_,h.bel.trans (hb1.mono h.bel.size),?_⟩
 ·rw [rows_no q hk hs]
  exact h.own.kept (grown_below hb1 none) (by
   cases h : v.ownBlock with
   | none=>exact .inl rfl
   | some g=>exact .inr (by simp))
 ·rw [rows_no q hk hs]
  exact RdL.keep (Keeps.of_below hb1 (fun b _ hb=>hb)) _ _ h.rdl
section
variable {ops : Array Oper} {rest : List Oper} {o : Oper} {a : Act} {Q : Exit -> Act -> World -> Prop} {W : World}
theorem ld_last {b : Nat} {q : List E} (hR : TabAt W b q) (hgd : o.guard = none) (x : Operand) (ho : o.op = .load 134 x) (hx : a.eval x = .pointer (some ⟨b,1,none⟩))
  (h : wpList Tryz.prog ops Q rest (a.put o.dst (.agg (qc q).toArray)) W) : wpList Tryz.prog ops Q (o :: rest) a W:=by
 have hl : (qc q).length = 24:=by rw [qc_len,hR.ok.len]
 exact wpList_load_mid hgd 134 x ho b 1 hx (qc q) _ (fun j v hv=>by rw [Nat.add_comm];exact hR.row.cell (by rw [List.getElem?_cons_succ];exact hv)) Tryz.underlying134 rfl (by rw [hl];kernel_rfl) h
end
theorem rd_four {ok : Nat -> Prop} {w : World} {t : T} {c0 c1 c2 c3 : Value} (h : RdA ok w t (.agg #[c0,c1,c2,c3])) : Rd ok w t [c0,c1,c2,c3]:=by
 obtain ⟨A,c,he,hr⟩:=h.rd
 simp only [Value.agg.injEq,Array.mk.injEq,List.cons.injEq,and_true] at he
 obtain ⟨rfl,rfl,rfl,rfl⟩:=he
 exact hr
theorem qc_extract (q : List E) {k : Nat} (hk : k < q.length) : (qc q).toArray.extract (k * 3) (k * 3 + 3) = #[.int .i64 q[k]!.s,.int .i64 q[k]!.e,.bool q[k]!.b]:=by
 apply Array.ext_getElem?
 intro j
 have hl:=qc_len q
 rw [Array.getElem?_extract]
 have hsz : (qc q).toArray.size = q.length * 3:=by simp [hl]
 rw [hsz]
 by_cases hj : j < 3
 ·rw [if_pos (by omega)]
  have:=qc_at q k hk j hj
  simp only [List.getElem?_toArray]
  rw [this]
  simp [ecell]
 ·rw [if_neg (by omega)]
  simp;omega
theorem idx_ent (q : List E) (hq : q.length = 8) {k : Nat} (hk : k < 8) (w : World) : (Instr.index 134 (.agg (qc q).toArray) (.int .i64 (k : Int))).run Tryz.prog w = .ok (.agg #[.int .i64 q[k]!.s,.int .i64 q[k]!.e,.bool q[k]!.b]) w:=by
 have h1 : (0 : Int) <= (k : Int) /\ (k : Int) < ((8 : Nat) : Int):=by omega
 have e:=qc_extract q (k:=k) (by omega)
 generalize q[k]! = x at e ⊢
 simp [Instr.index,run_underlying Tryz.underlying134,asIntOf,part,Tryz.isAgg133,Tryz.sizeOf133,hk]
 simpa using congrArg Array.toList e
theorem ttext_any {w : World} {p : Nat} {q : List E} (h : TabAt w p q) (hT : Tabs w w.heap.size) : Calls Tryz.prog 121 #[.pointer (some ⟨p,0,none⟩)] w fun e w'=>e = .returned (.string (textB q)) /\ Below w.heap.size w w':=by
 have hg:=given_any h
 have HH:=Lib.hid h
 have hq8:=h.ok.len
 clear h
 go_enter Tryz.func121,Tryz.ntmps121
 go_wp2_with (first | (refine hg.mono ?_;rintro e w1 ⟨rfl,rfl⟩) | (refine ld_last HH.out rfl _ rfl rfl ?_))
 go_loopw [3,15] (fun v i wr=>∃ (k : Nat) (xs' : List Value),i = .int .i64 (k : Int) /\ k <= 8 /\ TRel q w v wr k xs') (fun _ i _=>8 - (intOf i).toNat)
 case atStart=>exact ⟨0,[],rfl,Nat.zero_le _,World.ownsRow_nil ..,Below.refl _ _,rfl⟩
 case round =>
  obtain ⟨k,xs',rfl,hk,hV⟩:=hrel
  by_cases hlt : k < 8
  ·have hltz : (k : Int) < 8:=by omega
   have hix:=idx_ent q hq8 hlt wr
   have hkq : k < q.length:=by omega
   have hsz:=hV.bel.size
   obtain ⟨x,hx⟩ : ∃ x,q[k]! = x:=⟨_,rfl⟩
   have hst:=fun v' w1 w2 cs (h0 : 0 < x.s)=>hV.step (v':=v') (w1:=w1) (w2:=w2) (cs:=cs) hkq (by rw [hx];exact h0)
   have hsk:=fun w1 (h0 : ¬ 0 < x.s)=>hV.skip (w1:=w1) hkq (by rw [hx];exact h0)
   rw [hx] at hix hst
   have HST:=Lib.hid hst
   have HSK:=Lib.hid hsk
   have HV:=Lib.hid hV
   clear hst hsk hx hV
   obtain ⟨s,e,b⟩:=x
   simp only at hix
   have hb1 : Below wr.heap.size wr (wr.alloc (.cells #[.int .i64 s,.int .i64 e,.bool b] 133)):=(Below.refl _ _).alloc (Nat.le_refl _) _
   by_cases hs : 0 < s
   ·go_wp2_with fail
    refine (row_any k s e b _).mono ?_
    rintro en w1 ⟨A',c',rfl,hRA,hb2⟩
    have hb3:=hb1.trans (hb2.mono (by simp))
    have hRd':=Rd.mono (ok':=fun b=>wr.heap.size <= b) (fun b hb _=>by simp at hb;omega) _ _ (rd_four hRA)
    have hown1 : w1.ownsRow w.heap.size 202 4 u3 (rowsFrom 0 (q.take k)).length xs':=HV.out.own.kept (grown_below hb3 none) (by
     cases h : u3.ownBlock with
     | none=>exact .inl rfl
     | some g=>exact .inr (by simp))
    have hs1 : w.heap.size <= w1.heap.size:=Nat.le_trans hsz hb3.size
    have hn:=rows_len (q.take k) 0
    rw [List.length_take,Nat.min_eq_left (by omega)] at hn
    go_wp2_with (at_builtin;refine append_value rfl (.tmp 22) (.tmp 26) rfl w.heap.size _ _ xs' _ _ _ _ (Rd.one _ _ hRd') rfl hown1 rfl (by omega) hs1 ?_;intro v2 w2 hown2 hgr2 hob2)
    exact ⟨⟨k + 1,_,by go_num,by omega,HST.out v2 w1 w2 _ hs hb3 hRd' hown2 hgr2 hob2⟩,by simp [intOf];omega⟩
   ·go_wp2_with fail
    exact ⟨⟨k + 1,xs',by go_num,by omega,HSK.out _ hs hb1⟩,by simp [intOf];omega⟩
  ·obtain rfl : k = 8:=by omega
   have htk : q.take 8 = q:=List.take_of_length_le (by omega)
   have hrdl:=hV.rdl
   have hown:=hV.own
   have hsz:=hV.bel.size
   have hbel:=hV.bel
   rw [htk] at hrdl hown
   clear htk hV
   have hn:=rows_len q 0
   obtain ⟨A2,c2,rfl,_,_⟩:=own_shape hown
   obtain ⟨a1,a2,a3,a4,a5⟩:=text_facts HH.out.ok
   have hgd:=text_gd HH.out.ok
   go_wp2_with fail
   refine (list_any A2 _ c2 _ xs' _ (ReadsP.of_own hown) (by omega) (RdL.one _ _ hrdl)).mono ?_
   rintro e w3 ⟨v3,rfl,hown3,hb3⟩
   obtain ⟨A3,c3,rfl,hkc,hcm⟩:=own_shape hown3
   have hb03 : Below w.heap.size w w3:=hbel.trans (hb3.mono hsz)
   have hRA3 : RdA (fun b=>b < w3.heap.size) w3 (textT q) (.agg #[.int .i64 3,.int .i64 0,.string ⟨#[]⟩,.slice A3 (rowsFrom 0 q).length c3]):=by
    refine ⟨A3,c3,xs',rfl,by simp [textT,T.s,maxLen],hkc,hcm,?_,?_⟩
    ·exact (ReadsP.of_own hown3).mono (fun b hb hl=>hl)
    ·have k0 : Keeps (fun b=>w.heap.size <= b) wr w3:=Keeps.of_below hb3 (fun b _ h=>h)
     exact RdL.mono (fun b hb hl=>hl) _ _ (RdL.keep k0 _ _ (RdL.mono (fun b hb _=>hb.1) _ _ hrdl))
   have hput:=put_ok (textT q) _ w3 hRA3 a3 hgd ((hT.on hb03).up hb03.size)
   go_wp2_with fail
   refine hput.mono ?_
   rintro e w4 ⟨rfl,hb4⟩
   go_wp2_with fail
   go_ret
   exact ⟨rfl,hb03.trans (hb4.mono hb03.size)⟩
end
end Be
namespace Be
section
open Go Go.RowKit
theorem own_lit (w : World) (T : TypeId) (xs : List Value) (n size : Nat) (hl : xs.length = n * size) (hn : n <= maxLen) (base : Nat) (hb : base <= w.heap.size) : (w.alloc (.cells xs.toArray T)).ownsRow base T size (.slice (some ⟨w.heap.size,0,none⟩) n n) n xs:=by
 refine ⟨hl,.inr ⟨w.heap.size,n,xs.toArray,rfl,hb,?_,Nat.le_refl _,hn,by simpa using hl,?_⟩⟩
 ·show (w.heap.push _)[w.heap.size]? = _
  simp
 ·rw [List.take_of_length_le (by simp;omega)]
structure VRow (w0 wr : World) (v : Value) (ts : List T) (xs : List Value) : Prop where
 own : wr.ownsRow w0.heap.size 202 4 v ts.length xs
 rdl : RdL (fun b=>w0.heap.size <= b /\ some b ≠ v.ownBlock) wr ts xs
 bel : Below w0.heap.size w0 wr
section
variable {w0 wr w1 w2 : World} {v v' : Value} {ts : List T} {xs cs : List Value} {t : T}
theorem VRow.one {n : Int} (hb : Below w0.heap.size w0 wr) : VRow w0 (wr.alloc (.cells (ncell n).toArray 202)) (.slice (some ⟨wr.heap.size,0,none⟩) 1 1) [tN n] (ncell n):=by
 refine ⟨own_lit wr _ (ncell n) 1 4 rfl (by unfold maxLen;omega) _ hb.size,?_,hb.alloc hb.size _⟩
 exact ⟨ncell n,[],rfl,rd_tN n _ _,rfl⟩
theorem VRow.below (h : VRow w0 wr v ts xs) (hb : Below wr.heap.size wr w1) : VRow w0 w1 v ts xs:=by
 refine ⟨h.own.kept (grown_below hb none) ?_,RdL.keep (Keeps.of_below hb (fun b _ hb=>hb)) _ _ h.rdl,h.bel.trans (hb.mono h.bel.size)⟩
 cases h : v.ownBlock with
 | none=>exact .inl rfl
 | some g=>exact .inr (by simp)
theorem VRow.snoc (h : VRow w0 wr v ts xs) (hb1 : Below wr.heap.size wr w1) (ht : Rd (fun b=>wr.heap.size <= b) w1 t cs) (hown : w2.ownsRow w0.heap.size 202 4 v' (ts.length + 1) (xs ++ cs)) (hgr : w1.grownBy w2 v.ownBlock) (hb : v'.ownBlock = v.ownBlock \/ ∀ k,v'.ownBlock = some k -> w1.heap.size <= k) : VRow w0 w2 v' (ts ++ [t]) (xs ++ cs):=by
 have hlt:=own_lt' h.own
 have hs0:=h.bel.size
 have hs1:=hb1.size
 refine ⟨?_,?_,?_⟩
 ·rw [List.length_append]
  exact hown
 ·refine rdl_more (w0:=wr) (RdL.keep ?_ _ _ h.rdl) ht hs0 (fun g hg=>(hlt g hg).2) hgr hb
  exact Keeps.of_below hb1 (fun b _ hb=>hb)
 ·exact (h.bel.trans (hb1.mono hs0)).grown hgr (by omega) (fun g hg=>(hlt g hg).1)
theorem VRow.shape (h : VRow w0 wr v ts xs) : ∃ A c,v = .slice A ts.length c /\ ts.length <= c /\ c <= maxLen:=own_shape h.own
def LstPost (w0 : World) (ts : List T) (e : Ending) (w' : World) : Prop:=∃ A c,e = .returned (.agg #[.int .i64 3,.int .i64 0,.string ⟨#[]⟩,.slice A ts.length c]) /\ RdA (fun b=>w0.heap.size <= b) w' (.mk 3 0 .empty ts) (.agg #[.int .i64 3,.int .i64 0,.string ⟨#[]⟩,.slice A ts.length c]) /\ Below w0.heap.size w0 w'
theorem lst_any {A : Option Addr} {c : Nat} (h : VRow w0 wr (.slice A ts.length c) ts xs) (hn : ts.length <= 1000000) : Calls Tryz.prog 135 #[.slice A ts.length c] wr (LstPost w0 ts):=by
 refine (list_any A _ c _ xs wr (ReadsP.of_own h.own) (by omega) (RdL.one _ _ h.rdl)).mono ?_
 rintro e w3 ⟨v3,rfl,hown3,hb3⟩
 obtain ⟨A3,c3,rfl,hkc,hcm⟩:=own_shape hown3
 have hsz:=h.bel.size
 refine ⟨A3,c3,rfl,⟨A3,c3,xs,rfl,by simp [T.s,maxLen],hkc,hcm,?_,?_⟩,h.bel.trans (hb3.mono hsz)⟩
 ·exact (ReadsP.of_own hown3).mono (fun b hb hl=>by omega)
 ·have k0 : Keeps (fun b=>w0.heap.size <= b) wr w3:=Keeps.of_below hb3 (fun b _ h=>h)
  exact RdL.keep k0 _ _ (RdL.mono (fun b hb _=>hb.1) _ _ h.rdl)
theorem lst_put {w3 : World} {v : Value} (hr : RdA (fun b=>w0.heap.size <= b) w3 t v) (hwf : wfT t = true) (hg : gdT t 0 [] = true) (hT : Tabs w3 w3.heap.size) : Calls Tryz.prog 134 #[v] w3 fun e w'=>e = .returned (.tuple #[.string ⟨(enc t).toArray⟩,.int .i64 0]) /\ Below w3.heap.size w3 w' :=
 put_ok t v w3 (hr.mono fun b _ hl=>hl) hwf hg hT
theorem four_rd {w : World} {c0 c1 c2 c3 : Value} (h : RdA (fun b=>w.heap.size <= b) w1 t (.agg #[c0,c1,c2,c3])) (hs : wr.heap.size <= w.heap.size) : Rd (fun b=>wr.heap.size <= b) w1 t [c0,c1,c2,c3] :=
 Rd.mono (ok':=fun b=>wr.heap.size <= b) (fun b hb _=>by omega) _ _ (rd_four h)
end
end
end Be
end Go.Proofs.YtegjjhjgfkcbhaaGreatDoor
