/- BWrA. Conditions: as each part says. -/
import Derived.Test.YtegjjhjgfkcbhaaGreatDoorQ02
import Derived.Test.YtegjjhjgfkcbhaaGreatDoorQShelf
import Derived.Lib.AppendStr
set_option linter.unusedVariables false
set_option linter.unusedSimpArgs false
set_option maxRecDepth 100000
set_option maxHeartbeats 16000000
namespace Go.Proofs.YtegjjhjgfkcbhaaGreatDoor
namespace Be
section
open Go Go.RowKit
structure WrAt (w : World) (Wb B : Nat) (v : Value) (bs : List UInt8) : Prop where
 blk : w.heap[Wb]? = some (.cells #[v] 250 (0,0))
 own : w.ownsRow B 5 1 v bs.length (Lib.byteCells bs)
 lt : Wb < B
 le : B <= w.heap.size
theorem WrAt.cell {w : World} {Wb B : Nat} {v : Value} {bs : List UInt8} (h : WrAt w Wb B v bs) : w.cell? ⟨Wb,0,none⟩ = some v /\ w.frozen? ⟨Wb,0,none⟩ = false /\ Wb < w.heap.size:=by
 have:=h.blk
 refine ⟨by simp [World.cell?,this],by simp [World.frozen?,this],(Array.getElem?_eq_some_iff.1 this).1⟩
theorem WrAt.below {w w' : World} {Wb B : Nat} {v : Value} {bs : List UInt8} (h : WrAt w Wb B v bs) (hb : Below w.heap.size w w') : WrAt w' Wb B v bs :=
 ⟨(hb.block _ h.cell.2.2).trans h.blk,h.own.kept (grown_below hb none) (by
  cases hx : v.ownBlock with
  | none=>exact .inl rfl
  | some g=>exact .inr (by simp)),h.lt,Nat.le_trans h.le hb.size⟩
theorem WrAt.grown {w w1 : World} {Wb B : Nat} {v : Value} {bs : List UInt8} (h : WrAt w Wb B v bs) (hg : w.grownBy w1 v.ownBlock) : w1.heap[Wb]? = some (.cells #[v] 250 (0,0)):=by
 rw [hg.block Wb h.cell.2.2 (fun e=>by have:=(h.own.lt _ e.symm).1;have:=h.lt;omega)]
 exact h.blk
theorem blk_cell {w : World} {Wb : Nat} {v : Value} (h : w.heap[Wb]? = some (.cells #[v] 250 (0,0))) : w.cell? ⟨Wb,0,none⟩ = some v /\ w.frozen? ⟨Wb,0,none⟩ = false /\ Wb < w.heap.size :=
 ⟨by simp [World.cell?,h],by simp [World.frozen?,h],(Array.getElem?_eq_some_iff.1 h).1⟩
theorem wr_put {w1 : World} {Wb B : Nat} {v v1 : Value} {bs : List UInt8} (hblk : w1.heap[Wb]? = some (.cells #[v] 250 (0,0))) (hown : w1.ownsRow B 5 1 v1 bs.length (Lib.byteCells bs)) (hlt : Wb < B) (hle : B <= w1.heap.size) : WrAt (w1.setCell ⟨Wb,0,none⟩ v1) Wb B v1 bs:=by
 refine ⟨?_,ownsRow_setCell_below hown (a:=⟨Wb,0,none⟩) hlt v1,hlt,by simpa using hle⟩
 simp only [World.setCell,Array.getElem?_modify,hblk]
 simp
def Tabs (w : World) (Wb : Nat) : Prop:=Lib.TabBelow Tryz.prog Wb w "internal/strconv.uint64pow10" .u64 Lib.pow10Tab
theorem Tabs.on {w w1 : World} {Wb : Nat} (h : Tabs w Wb) (hb : Below Wb w w1) : Tabs w1 Wb:=Lib.TabBelow.on h hb
theorem Tabs.up {w : World} {Wb B : Nat} (h : Tabs w Wb) (hB : Wb <= B) : Tabs w B:=fun w' hb=>h w' (hb.mono hB)
theorem fits_any (Wb B : Nat) (v : Value) (bs : List UInt8) (w : World) (h : WrAt w Wb B v bs) : Calls Tryz.prog 201 #[.pointer (some ⟨Wb,0,none⟩)] w fun e w'=>e = .returned (.bool (decide (bs.length <= 65536))) /\ w = w':=by
 obtain ⟨hc,hf,hz⟩:=h.cell
 obtain ⟨A,c,rfl,_⟩:=own_shape h.own
 generalize bs.length = n at *
 go_enter Tryz.func201,Tryz.ntmps201
 go_wp2
 go_ret
 exact ⟨ret_bool (by simp;try omega),rfl⟩
def WrPost (Wb B : Nat) (bs : List UInt8) (v : Value) (w : World) (e : Ending) (w' : World) : Prop:=e = .returned v /\ (∃ u,WrAt w' Wb B u bs) /\ Below Wb w w'
theorem append_i64 (Wb B : Nat) (v : Value) (bs : List UInt8) (n : Int) (h0 : -9223372036854775808 <= n) (h1 : n <= 9223372036854775807) (hl : bs.length <= 1000000) (w : World) (h : WrAt w Wb B v bs) (hT : Tabs w Wb) :
  Calls Tryz.prog 218 #[v,.int .i64 n,.int .i64 10] w fun e w'=>∃ v',e = .returned v' /\ w'.heap[Wb]? = some (.cells #[v] 250 (0,0)) /\ w'.ownsRow B 5 1 v' (bs ++ Lib.itoa n).length (Lib.byteCells (bs ++ Lib.itoa n)) /\ B <= w'.heap.size /\ Below B w w':=by
 refine (Tryz.strconv_AppendInt_10 B bs.length n h0 h1 v (Lib.byteCells bs) w h.own h.le (by omega) (hT.up (Nat.le_of_lt h.lt))).mono ?_
 rintro e w' ⟨v',he,hown,hb,hk⟩
 refine ⟨v',he,(hb.block Wb h.lt).trans h.blk,?_,Nat.le_trans h.le hb.size,hb⟩
 rw [List.length_append,Lib.byteCells_append]
 exact hown
theorem append_byte_at {ops : Array Oper} {rest : List Oper} {o : Oper} {a : Act} {Q : Exit -> Act -> World -> Prop} {W : World} (hgd : o.guard = none) (s x : Operand)
  (ho : o.op = .call { callee:=.builtin .append,args:=#[s,x],argTypes:=#[139,139] })
  (base : Nat) (v : Value) (n : Nat) (xs : List Value) (y : Value) (hy : y.oneCell' = true) (hs : a.eval s = v) (hown : W.ownsRow base 5 1 v n xs) (N : Nat) (hN : N = W.heap.size) (hx : a.eval x = .slice (some ⟨N,0,none⟩) 1 1)
  (hn : n <= 1000000000) (hbase : base <= W.heap.size)
  (h : ∀ v' w',w'.ownsRow base 5 1 v' (n + 1) (xs ++ [y]) -> W.grownBy w' v.ownBlock -> (v'.ownBlock = v.ownBlock \/ ∀ k,v'.ownBlock = some k -> W.heap.size <= k) -> wpList Tryz.prog ops Q rest (a.put o.dst v') w') :
  wpList Tryz.prog ops Q (o :: rest) a (W.alloc (.cells #[y] 5)):=by
 subst hN
 exact append_byte hgd s x ho base v n xs y hy hs hown hx hn hbase h
theorem own_byte {w : World} {B : Nat} {v : Value} {bs : List UInt8} {z : Int} (c : UInt8) (hz : z = (c.toNat : Int)) (h : w.ownsRow B 5 1 v (bs.length + 1) (Lib.byteCells bs ++ [.int .u8 z])) : w.ownsRow B 5 1 v (bs ++ [c]).length (Lib.byteCells (bs ++ [c])):=by
 subst hz
 rw [List.length_append,Lib.byteCells_append]
 exact h
theorem wnumber_any (Wb B : Nat) (v : Value) (bs : List UInt8) (n : Int) (h0 : -9223372036854775808 <= n) (h1 : n <= 9223372036854775807) (hl : bs.length <= 900000) (w : World) (h : WrAt w Wb B v bs) (hT : Tabs w Wb) :
  Calls Tryz.prog 198 #[.pointer (some ⟨Wb,0,none⟩),.int .i64 n] w (WrPost Wb B (bs ++ 105 :: (Lib.itoa n ++ [101])) (.tuple #[]) w):=by
 obtain ⟨hc,hf,hz⟩:=h.cell
 have hBs:=h.le
 have hlt:=h.lt
 go_enter Tryz.func198,Tryz.ntmps198
 go_wp2_with (at_builtin;refine append_byte rfl (.tmp 8) (.tmp 9) rfl B v bs.length _ _ rfl rfl h.own rfl (by omega) hBs ?_;intro v1 w1 hown1 hgr1 hob1;obtain ⟨A1,c1,rfl,_⟩:=own_shape hown1;have hb1:=h.grown hgr1;obtain ⟨k0,k1,k2⟩:=blk_cell hb1)
 have hB1 : B <= w1.heap.size:=Nat.le_trans hBs hgr1.size
 have hw2:=wr_put hb1 (own_byte 105 rfl hown1) hlt hB1
 have hbel2 : Below Wb w (w1.setCell ⟨Wb,0,none⟩ (.slice A1 (bs.length + 1) c1)):=((Below.refl Wb w).grown hgr1 (by omega) (fun k hk=>by have:=(h.own.lt _ hk).1;omega)).setCell (Nat.le_refl _) _
 generalize w1.setCell ⟨Wb,0,none⟩ (.slice A1 (bs.length + 1) c1) = w2 at hw2 hbel2
 clear k0 k1 k2
 refine (append_i64 Wb B _ (bs ++ [105]) n h0 h1 (by simp;omega) w2 hw2 (hT.on hbel2)).mono ?_
 rintro e w3 ⟨v3,rfl,hb3,hown3,hB3,hbe3⟩
 obtain ⟨A3,c3,rfl,_⟩:=own_shape hown3
 obtain ⟨k0,k1,k2⟩:=blk_cell hb3
 have hw4:=wr_put hb3 hown3 hlt hB3
 have hbel4 : Below Wb w (w3.setCell ⟨Wb,0,none⟩ (.slice A3 (bs ++ [105] ++ Lib.itoa n).length c3)):=(hbel2.trans (hbe3.mono (by omega))).setCell (Nat.le_refl _) _
 have hil:=itoa_len n h0 h1
 have hown4:=hw4.own
 have hgr4:=fun w5=>hw4.grown (w1:=w5)
 have hLb : (bs ++ [105] ++ Lib.itoa n).length <= 1000000:=by simp;omega
 generalize hbs' : bs ++ [105] ++ Lib.itoa n = bs' at *
 have HBS:=Lib.hid hbs'
 clear hbs'
 go_wp2_with (at_builtin;refine append_byte_at rfl (.tmp 26) (.tmp 27) rfl B _ bs'.length _ _ rfl rfl hown4 w3.heap.size (by simp) rfl (by omega) (by simp;omega) ?_;intro v5 w5 hown5 hgr5 hob5;obtain ⟨A5,c5,rfl,_⟩:=own_shape hown5;have hb5:=hgr4 _ hgr5;obtain ⟨k3,k4,k5⟩:=blk_cell hb5)
 have hB5 : B <= w5.heap.size:=by have:=hgr5.size;have:=hw4.le;omega
 have hw6:=wr_put hb5 (own_byte 101 rfl hown5) hlt hB5
 have hbel6 : Below Wb w (w5.setCell ⟨Wb,0,none⟩ (.slice A5 (bs'.length + 1) c5)):=(hbel4.grown hgr5 (by have:=hw4.le;omega) (fun k hk=>by have:=(hown4.lt _ hk).1;omega)).setCell (Nat.le_refl _) _
 go_end0
 have e : bs ++ 105 :: (Lib.itoa n ++ [101]) = bs' ++ [101]:=by rw [<- HBS.out];simp
 rw [<- e] at hw6
 exact ⟨rfl,⟨_,hw6⟩,hbel6⟩
theorem wpList_append_string {P : Program} {w : World} {ops : Array Oper} {rest : List Oper} {o : Oper} {a : Act} {Q : Exit -> Act -> World -> Prop} (hgd : o.guard = none) (s x : Operand) (t u : TypeId)
  (ho : o.op = .call { callee:=.builtin .append,args:=#[s,x],argTypes:=#[t,u] })
  (base : Nat) (e : TypeId) (i : TypeInfo) (ht : P.underlying t = some (.slice e)) (hu : P.underlying u = some .string) (hi : P.info? e = some i) (hz : i.zero = some (.int .u8 0)) (hsize : i.size = 1) (hby : i.bytes = 1)
  (v : Value) (n : Nat) (xs : List Value) (hs : a.eval s = v) (hown : w.ownsRow base e 1 v n xs) (y : ByteArray) (hx : a.eval x = .string y)
  (h63 : n + y.size <= maxLen) (hbytes : n + y.size <= 140737488355328) (hbase : base <= w.heap.size)
  (h : ∀ v' w',w'.ownsRow base e 1 v' (n + y.size) (xs ++ Lib.strCells y) -> w.grownBy w' v.ownBlock -> wpList P ops Q rest (a.put o.dst v') w') : wpList P ops Q (o :: rest) a w:=by
 refine wpList_plain hgd fun _ hK=>?_
 obtain ⟨v',w',hrun,h2,h3,_⟩:=Lib.run_append_own_string (P:=P) w base t u o.type e i ht hu hi hz hsize hby v n xs hown y h63 hbytes hbase
 unfold Oper.wp execOp
 simp only [ho,resolve,invoke,builtin,Sem.run_bind,Sem.run_pure,Result.andThen_ok,List.map_toArray,List.map_cons,List.map_nil,hs,hx,hrun]
 exact hK _ _ (h v' w' h2 h3)
theorem own_len {w : World} {B : Nat} {e : TypeId} {v : Value} {n m : Nat} {xs : List Value} (h : n = m) (hown : w.ownsRow B e 1 v n xs) : w.ownsRow B e 1 v m xs:=by
 subst h
 exact hown
theorem text_end {w4 w5 : World} {Wb B : Nat} {v4 v5 : Value} {bs bs' bf : List UInt8} {s : ByteArray} (hbs : bs ++ Lib.itoa s.size = bs') (hbf : bs ++ (Lib.itoa s.size ++ 58 :: s.data.toList) = bf) (hw4 : WrAt w4 Wb B v4 (bs' ++ [58]))
  (hown5 : w5.ownsRow B 5 1 v5 (bs'.length + 1 + s.size) (Lib.byteCells (bs' ++ [58]) ++ Lib.strCells s)) (hb5 : w5.heap[Wb]? = some (.cells #[v4] 250 (0,0))) (hgr5 : w4.grownBy w5 v4.ownBlock) : WrAt (w5.setCell ⟨Wb,0,none⟩ v5) Wb B v5 bf:=by
 have e : bf = bs' ++ [58] ++ s.data.toList:=by rw [<- hbf,<- hbs];simp
 have el : bf.length = bs'.length + 1 + s.size:=by rw [e];simp;omega
 refine wr_put hb5 ?_ hw4.lt (Nat.le_trans hw4.le hgr5.size)
 rw [el,e,Lib.byteCells_append (bs' ++ [58])]
 exact hown5
def WVPost (Wb B : Nat) (good : Bool) (bs : List UInt8) (w : World) (e : Ending) (w' : World) : Prop:=e = .returned (.bool good) /\ (good = true -> ∃ u,WrAt w' Wb B u bs) /\ Below Wb w w'
theorem wtext_any (Wb B : Nat) (v : Value) (bs : List UInt8) (s : ByteArray) (hsm : s.size <= 9223372036854775807) (hl : bs.length <= 70000) (w : World) (h : WrAt w Wb B v bs) (hT : Tabs w Wb) :
  Calls Tryz.prog 199 #[.pointer (some ⟨Wb,0,none⟩),.string s] w (WVPost Wb B (decide ((bs ++ (Lib.itoa s.size ++ 58 :: s.data.toList)).length <= 65536)) (bs ++ (Lib.itoa s.size ++ 58 :: s.data.toList)) w):=by
 obtain ⟨hc,hf,hz⟩:=h.cell
 have hBs:=h.le
 have hlt:=h.lt
 by_cases hlong : 65536 < s.size
 ·have hd : decide ((bs ++ (Lib.itoa s.size ++ 58 :: s.data.toList)).length <= 65536) = false:=decide_eq_false (by simp only [List.length_append,List.length_cons,Array.length_toList];have : s.data.size = s.size:=rfl;omega)
  rw [hd]
  have hlz : (65536 : Int) < (s.size : Int):=by omega
  go_enter Tryz.func199,Tryz.ntmps199
  go_wp2_with fail
  go_ret
  exact ⟨rfl,fun h=>by simp at h,Below.refl _ _⟩
 ·have hlz : ¬ (65536 : Int) < (s.size : Int):=by omega
  have hil:=itoa_len (s.size : Int) (by omega) (by omega)
  generalize hbf : bs ++ (Lib.itoa s.size ++ 58 :: s.data.toList) = bf
  have HBF:=Lib.hid hbf
  clear hbf
  go_enter Tryz.func199,Tryz.ntmps199
  go_wp2_with fail
  refine (append_i64 Wb B v bs (s.size : Int) (by omega) (by omega) (by omega) w h hT).mono ?_
  rintro e w1 ⟨v1,rfl,hb1,hown1,hB1,hbe1⟩
  obtain ⟨A1,c1,rfl,_⟩:=own_shape hown1
  obtain ⟨k0,k1,k2⟩:=blk_cell hb1
  have hw2:=wr_put hb1 hown1 hlt hB1
  have hbel2 : Below Wb w (w1.setCell ⟨Wb,0,none⟩ (.slice A1 (bs ++ Lib.itoa s.size).length c1)):=(hbe1.mono (B':=Wb) (Nat.le_of_lt hlt)).setCell (Nat.le_refl _) _
  have hown2:=hw2.own
  have hgr2:=fun w5=>hw2.grown (w1:=w5)
  have hLb : (bs ++ Lib.itoa s.size).length <= 1000000:=by simp;omega
  generalize hbs' : bs ++ Lib.itoa s.size = bs' at *
  have HBS:=Lib.hid hbs'
  clear hbs'
  obtain ⟨i0,hi,hz0,hz1,hz2⟩:=info_parts byte_row
  go_wp2_with (first
   | (at_builtin;refine append_byte_at rfl (.tmp 22) (.tmp 23) rfl B _ bs'.length _ _ rfl rfl hown2 w1.heap.size (by simp) rfl (by omega) (by simp;omega) ?_;intro v3 w3 hown3 hgr3 hob3;obtain ⟨A3,c3,rfl,_⟩:=own_shape hown3;have hb3:=hgr2 _ hgr3;obtain ⟨k3,k4,k5⟩:=blk_cell hb3;have hB3 : B <= w3.heap.size:=(by have:=hgr3.size;have:=hw2.le;omega);have hw4:=wr_put hb3 (own_byte 58 rfl hown3) hlt hB3;have hown4:=own_len (show (bs' ++ [58]).length = bs'.length + 1 by simp) hw4.own)
   | (at_builtin;refine wpList_append_string rfl (.tmp 31) (.tmp 32) 139 9 rfl B 5 i0 Tryz.underlying139 Tryz.underlying9 hi hz0 hz1 hz2 _ (bs'.length + 1) _ rfl hown4 s rfl (by unfold maxLen;omega) (by omega) (by simp;omega) ?_;intro v5 w5 hown5 hgr5;obtain ⟨A5,c5,rfl,_⟩:=own_shape hown5;have hb5:=hw4.grown hgr5;obtain ⟨k6,k7,k8⟩:=blk_cell hb5)
   | (go_at_call 201;refine (fits_any Wb B _ bf _ (text_end HBS.out HBF.out hw4 hown5 hb5 hgr5)).mono ?_;rintro e w' ⟨rfl,rfl⟩))
  have hbel4 : Below Wb w (w3.setCell ⟨Wb,0,none⟩ (.slice A3 (bs'.length + 1) c3)):=(hbel2.grown hgr3 (by have:=hw2.le;omega) (fun k hk=>by have:=(hown2.lt _ hk).1;omega)).setCell (Nat.le_refl _) _
  have hbel6 : Below Wb w (w5.setCell ⟨Wb,0,none⟩ (.slice A5 (bs'.length + 1 + s.size) c5)):=(hbel4.grown hgr5 (by have:=hw4.le;omega) (fun k hk=>by have:=(hown4.lt _ hk).1;omega)).setCell (Nat.le_refl _) _
  go_ret
  exact ⟨rfl,fun _=>⟨_,text_end HBS.out HBF.out hw4 hown5 hb5 hgr5⟩,hbel6⟩
end
end Be
end Go.Proofs.YtegjjhjgfkcbhaaGreatDoor
