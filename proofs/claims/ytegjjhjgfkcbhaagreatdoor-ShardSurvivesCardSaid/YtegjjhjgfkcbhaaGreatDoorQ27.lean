/- WIns. Conditions: as each part says. -/
import Derived.Test.YtegjjhjgfkcbhaaGreatDoorQ20
import Derived.Shelf.Spec.SlicesInsertGrow
import Derived.Laws.CopyRow
set_option linter.unusedVariables false
set_option linter.unusedSimpArgs false
set_option maxRecDepth 100000
set_option maxHeartbeats 16000000
namespace Go.Proofs.YtegjjhjgfkcbhaaGreatDoor
section
open Go Go.RowKit Go.Maps
theorem hit_row : (Tryz.prog.info? 91).map (fun i=>(i.zero,i.size,i.bytes)) = some (some (hitV (0,0)),2,16):=by kernel_rfl
theorem hit_size : (Tryz.prog.info? 91).map (·.size) = some 2:=by kernel_rfl
theorem run_copy_row2 {P : Program} (w : World) (dT sT ty elem : TypeId) (g o dLen dCap : Nat) (a : Addr) (sLen sCap : Nat) (cur : Array Value) (t : TypeId) (cs : List Value)
  (hu : P.underlying dT = some (.slice elem)) (hs : (P.info? elem).map (·.size) = some 2)
  (hg : w.heap[g]? = some (.cells cur t (0,0))) (m : Nat) (hm : m = Nat.min sLen dLen) (hn : cs.length = m * 2)
  (hsrc : ∀ j v,cs[j]? = some v -> w.cell? (a.add j) = some v) (hfit : o + cs.length <= cur.size) (h1 : ∀ v ∈ cs,v.oneCell' = true) :
  (Builtin.copy_ #[dT,sT] ty #[.slice (some ⟨g,o,none⟩) dLen dCap,.slice (some a) sLen sCap]).run P w =
   .ok (goInt m) (w.setRow g (cur.toList.take o ++ cs ++ cur.toList.drop (o + cs.length)).toArray):=by
 have hl:=run_loadCells_list (P:=P) w a cs hsrc
 have hst:=run_storeCells_at P g o t cs 0 cur w hg (by simpa using hfit) h1
 cases hq : P.info? elem with
 | none=>simp [hq] at hs
 | some i =>
  have hi : i.size = 2:=by simpa [hq] using hs
  rw [hn] at hl
  simp [Builtin.copy_,run_underlying hu,Builtin.lenOf,Builtin.firstCells,sizeOf,typeInfo,hq,hi,<- hm,hl,hst]
theorem hits_seg (H : List Hit) (h : Hit) (p : Nat) (hp : p <= H.length) (X : List Value) (c : Nat) (hX : X.length = c * 2) (hc : H.length + 1 <= c) (h0 : X.take (p * 2) = hits (H.take p)) :
  ((X.take (p * 2) ++ hits [h] ++ X.drop (p * 2 + (hits [h]).length)).take ((p + 1) * 2) ++ hits (H.drop p) ++ (X.take (p * 2) ++ hits [h] ++ X.drop (p * 2 + (hits [h]).length)).drop ((p + 1) * 2 + (hits (H.drop p)).length)).take ((H.length + 1) * 2) = hits (H.take p ++ h :: H.drop p):=by
 have h1 : (X.take (p * 2)).length = p * 2:=by rw [List.length_take,hX];omega
 have h2 : (hits [h]).length = 2:=hits_len [h]
 have h3 : (hits (H.drop p)).length = (H.length - p) * 2:=by rw [hits_len,List.length_drop]
 have e1 : (X.take (p * 2) ++ hits [h] ++ X.drop (p * 2 + (hits [h]).length)).take ((p + 1) * 2) = X.take (p * 2) ++ hits [h]:=List.take_left' (by rw [List.length_append,h1,h2];omega)
 rw [e1]
 rw [List.take_left' (by rw [List.length_append,List.length_append,h1,h2,h3];omega),h0]
 rw [hits_append,show h :: H.drop p = [h] ++ H.drop p from rfl,hits_append,List.append_assoc]
theorem hits_seg' (H : List Hit) (h : Hit) (p : Nat) (hp : p <= H.length) (X : List Value) (c : Nat) (hX : X.length = c * 2) (hc : H.length + 1 <= c) (h0 : X.take (p * 2) = hits (H.take p)) :
  ((X.take ((p + 1) * 2) ++ hits (H.drop p) ++ X.drop ((p + 1) * 2 + (hits (H.drop p)).length)).take (p * 2) ++ hits [h] ++ (X.take ((p + 1) * 2) ++ hits (H.drop p) ++ X.drop ((p + 1) * 2 + (hits (H.drop p)).length)).drop (p * 2 + (hits [h]).length)).take ((H.length + 1) * 2) = hits (H.take p ++ h :: H.drop p):=by
 have h1 : (X.take ((p + 1) * 2)).length = (p + 1) * 2:=by rw [List.length_take,hX];omega
 have h2 : (hits [h]).length = 2:=hits_len [h]
 have h3 : (hits (H.drop p)).length = (H.length - p) * 2:=by rw [hits_len,List.length_drop]
 have e1 : (X.take ((p + 1) * 2) ++ hits (H.drop p) ++ X.drop ((p + 1) * 2 + (hits (H.drop p)).length)).take (p * 2) = X.take (p * 2):=by
  rw [List.append_assoc,List.take_append_of_le_length (by rw [h1];omega),List.take_take,Nat.min_eq_left (by omega)]
 have e2 : (X.take ((p + 1) * 2) ++ hits (H.drop p) ++ X.drop ((p + 1) * 2 + (hits (H.drop p)).length)).drop (p * 2 + (hits [h]).length) = hits (H.drop p) ++ X.drop ((p + 1) * 2 + (hits (H.drop p)).length):=by
  rw [List.append_assoc,List.drop_left' (by rw [h1,h2];omega)]
 rw [e1,e2,h0]
 have h4 : (hits (H.take p)).length = p * 2:=by rw [hits_len,List.length_take];omega
 rw [<- List.append_assoc,List.take_left' (by rw [List.length_append,List.length_append,h4,h2,h3];omega)]
 rw [hits_append,show h :: H.drop p = [h] ++ H.drop p from rfl,hits_append,List.append_assoc]
def InsPost (W : World) (base : Nat) (v : Value) (H : List Hit) (h : Hit) (p : Nat) (e : Ending) (w' : World) : Prop :=
 ∃ v',e = .returned v' /\ w'.ownsRow base 91 2 v' (H.length + 1) (hits (H.take p ++ h :: H.drop p)) /\ W.grownBy w' v.ownBlock /\ (v'.ownBlock = v.ownBlock \/ v'.ownBlock = some W.heap.size)
theorem ins_end (W : World) (base : Nat) (A : Option Addr) (c : Nat) (H : List Hit) (h : Hit) (g : Nat) (hown : W.ownsRow base 91 2 (.slice A H.length c) H.length (hits H)) (hbase : base <= W.heap.size) (hr : Row W g 91 (hcell h)) (hn : H.length <= 1000) :
  Calls Tryz.prog 150 #[.slice A H.length c,.int .i64 (H.length : Int),.slice (some ⟨g,0,none⟩) 1 1] W (InsPost W base (.slice A H.length c) H h H.length):=by
 have hR : Reads W W.heap.size 2 (some ⟨g,0,none⟩) 1 (hits [h]):=⟨rfl,fun _=>⟨_,rfl,hr.lt,fun j u hj=>by
  rw [add_flat,Nat.zero_add]
  exact hr.cell (by simpa [hits] using hj)⟩⟩
 obtain ⟨_,c',he,hnc,hcm⟩:=own_shape hown
 have hcc : c = c':=by injection he
 subst hcc
 obtain ⟨i0,hi,hz0,hz1,hz2⟩:=info_parts hit_row
 have HO:=Lib.hid hown
 have HR:=Lib.hid hR
 have hge : (0 : Int) <= (H.length : Int):=by omega
 have e1 : H.take H.length ++ h :: H.drop H.length = H ++ [h]:=by rw [List.take_length,List.drop_length]
 have HE:=Lib.hid e1
 clear hown hr hR he e1
 generalize hN : H.length = n at *
 have HN:=Lib.hid hN
 clear hN
 go_enter Tryz.func150,Tryz.ntmps150
 by_cases hcn : c = n
 ·subst hcn
  go_wp2_with (at_builtin;refine wpList_append_any _ rfl (.tmp 23) (.tmp 24) 50 rfl base 91 i0 (hitV (0,0)) 2 16 Tryz.underlying50 hi hz0 hz1 hz2 rfl (by decide) _ c (hits H) rfl HO.out _ (some ⟨g,0,none⟩) 1 1 (hits [h]) rfl HR.out (hits_one [h]) (by unfold maxLen;omega) (by omega) hbase ?_;intro v1 w1 hown1 hg1 hv1)
  go_ret
  exact ⟨_,rfl,by rw [HN.out,HE.out,hits_append];exact hown1,hg1,hv1⟩
 ·go_wp2_with (at_builtin;refine wpList_append_any _ rfl (.tmp 23) (.tmp 24) 50 rfl base 91 i0 (hitV (0,0)) 2 16 Tryz.underlying50 hi hz0 hz1 hz2 rfl (by decide) _ n (hits H) rfl HO.out _ (some ⟨g,0,none⟩) 1 1 (hits [h]) rfl HR.out (hits_one [h]) (by unfold maxLen;omega) (by omega) hbase ?_;intro v1 w1 hown1 hg1 hv1)
  go_ret
  exact ⟨_,rfl,by rw [HN.out,HE.out,hits_append];exact hown1,hg1,hv1⟩
theorem ins_grow (W : World) (base b : Nat) (H : List Hit) (h : Hit) (g p : Nat) (hown : W.ownsRow base 91 2 (.slice (some ⟨b,0,none⟩) H.length H.length) H.length (hits H)) (hbase : base <= W.heap.size) (hr : Row W g 91 (hcell h)) (hn : H.length <= 1000) (hp : p < H.length) :
  Calls Tryz.prog 150 #[.slice (some ⟨b,0,none⟩) H.length H.length,.int .i64 (p : Int),.slice (some ⟨g,0,none⟩) 1 1] W (InsPost W base (.slice (some ⟨b,0,none⟩) H.length H.length) H h p):=by
 have hc0:=hown.cells (g:=b) rfl
 have hbw:=(hown.lt b rfl).2
 have hvw:=hr.lt
 obtain ⟨i0,hi0,hz0,hzs,hzb⟩:=info_parts hit_row
 have hcs : ∀ j v,(hits H)[j]? = some v -> W.cell? ⟨b,j,none⟩ = some v:=fun j v hj=>by
  have:=hc0 j v hj
  rwa [add_flat,Nat.zero_add] at this
 have hvs : ∀ j v,(hits [h])[j]? = some v -> W.cell? ⟨g,j,none⟩ = some v:=fun j v hj=>hr.cell (by simpa [hits] using hj)
 have hold : (Builtin.firstCells i0.size p (.slice (some ⟨b,0,none⟩) p H.length)).run Tryz.prog W.drew = .ok (hits (H.take p)).toArray W.drew:=by
  rw [hzs]
  refine run_firstCells_some W.drew 2 p ⟨b,0,none⟩ p H.length (hits (H.take p)) (by rw [hits_len,List.length_take];omega) (fun j v hj=>?_)
  rw [add_flat,Nat.zero_add]
  rw [<- hits_take] at hj
  rw [List.getElem?_take] at hj
  split at hj
  ·exact hcs j v hj
  ·cases hj
 have hik : p + (H.length + 1 - p) = H.length + 1:=by omega
 have hrz : ∀ ty,(Builtin.append_ #[50,3] ty #[.slice (some ⟨b,0,none⟩) p H.length,.int .i64 (((H.length + 1 - p : Nat) : Int))]).run Tryz.prog W =
   .ok (.slice (some ⟨W.heap.size,0,none⟩) (H.length + 1) (grownCap W (H.length + 1) H.length 91)) (W.drew.alloc (.cells ((hits (H.take p)).toArray ++ Builtin.zeroCells (hitV (0,0)).cells (H.length + 1 - p) ++ Builtin.zeroCells (hitV (0,0)).cells (grownCap W (H.length + 1) H.length 91 - (H.length + 1))) 91)):=fun ty=>by
  have h:=Lib.run_append_grow_zeros W 50 3 ty 91 i0 _ .i64 .i64 Tryz.underlying50 Tryz.underlying3 hi0 hz0 (some ⟨b,0,none⟩) p H.length (hits (H.take p)) hold (H.length + 1 - p) (by omega) (by omega) (by omega) (by omega) (by rw [hzb];omega) (by rw [hzb,hik];exact growslice_fits (by omega) (by omega))
  rw [hik] at h
  exact h
 obtain ⟨G,hG⟩ : ∃ G,G = grownCap W (H.length + 1) H.length 91:=⟨_,rfl⟩
 have hGn : H.length + 1 <= G:=by rw [hG];exact grownCap_ge W _ _ _
 have hG63 : G <= maxLen:=by rw [hG];exact grownCap_le_maxLen W (H.length + 1) H.length 91 (by unfold maxLen;omega)
 obtain ⟨ROW,hROW⟩ : ∃ ROW : Array Value,ROW = (hits (H.take p)).toArray ++ Builtin.zeroCells (hitV (0,0)).cells (H.length + 1 - p) ++ Builtin.zeroCells (hitV (0,0)).cells (G - (H.length + 1)):=⟨_,rfl⟩
 have hzc : ∀ n,(Builtin.zeroCells (hitV (0,0)).cells n).size = n * 2:=fun n=>by simp [Builtin.zeroCells,hitV,Value.cells]
 have hRs : ROW.size = G * 2:=by
  rw [hROW,Array.size_append,Array.size_append,hzc,hzc,List.size_toArray,hits_len,List.length_take]
  omega
 have hR0 : ROW.toList.take (p * 2) = hits (H.take p):=by
  rw [hROW,Array.toList_append,Array.toList_append,List.append_assoc]
  exact List.take_left' (by rw [hits_len,List.length_take];omega)
 rw [<- hG,<- hROW] at hrz
 obtain ⟨W1,hW1⟩ : ∃ W1,W1 = W.drew.alloc (.cells ROW 91):=⟨_,rfl⟩
 rw [<- hW1] at hrz
 have hN1 : W1.heap[W.heap.size]? = some (.cells ROW 91 (0,0)):=by rw [hW1];exact heap_alloc_new W.drew _
 have hk1 : ∀ x,x < W.heap.size -> W1.heap[x]? = W.heap[x]?:=fun x hx=>by rw [hW1];exact heap_alloc_lt W.drew _ hx
 have hs1 : W1.heap.size = W.heap.size + 1:=by rw [hW1];simp
 have ho1 : W1.os = W.os /\ W1.tape = W.tape /\ W1.output = W.output:=by rw [hW1];exact ⟨rfl,rfl,rfl⟩
 have hdl : (hits (H.drop p)).length = (H.length - p) * 2:=by rw [hits_len,List.length_drop]
 have hsz:=hit_size
 obtain ⟨X2,hX2⟩ : ∃ X2 : Array Value,X2 = (ROW.toList.take (p * 2) ++ hits [h] ++ ROW.toList.drop (p * 2 + (hits [h]).length)).toArray:=⟨_,rfl⟩
 have hX2s : X2.size = G * 2:=by
  rw [hX2,List.size_toArray,List.length_append,List.length_append,List.length_take,List.length_drop,hits_len,Array.length_toList,hRs]
  simp only [List.length_cons,List.length_nil]
  omega
 obtain ⟨W2,hW2⟩ : ∃ W2,W2 = W1.setRow W.heap.size X2:=⟨_,rfl⟩
 have hN2 : W2.heap[W.heap.size]? = some (.cells X2 91 (0,0)):=by rw [hW2];exact setRow_heap W1 _ ROW X2 _ _ hN1
 have hcpA : ∀ ty dc,(Builtin.copy_ #[50,50] ty #[.slice (some ⟨W.heap.size,p * 2,none⟩) (H.length + 1 - p) dc,.slice (some ⟨g,0,none⟩) 1 1]).run Tryz.prog W1 = .ok (goInt 1) W2:=fun ty dc=>by
  have:=run_copy_row2 (P:=Tryz.prog) W1 50 50 ty 91 W.heap.size (p * 2) (H.length + 1 - p) dc ⟨g,0,none⟩ 1 1 ROW 91 (hits [h]) Tryz.underlying50 hsz hN1 1 (by simp only [Nat.min_def];split <;> omega) rfl
   (fun j v hj=>by rw [add_flat,Nat.zero_add,World.cell?_of_block (hk1 g hvw)];exact hvs j v hj) (by rw [hRs,hits_len];simp only [List.length_cons,List.length_nil];omega) (hits_one [h])
  rw [this,hW2,hX2]
  rfl
 have hk2 : ∀ x,x < W.heap.size -> W2.heap[x]? = W.heap[x]?:=fun x hx=>by rw [hW2,setRow_other _ _ _ _ (by omega)];exact hk1 x hx
 obtain ⟨X3,hX3⟩ : ∃ X3 : Array Value,X3 = (X2.toList.take ((p + 1) * 2) ++ hits (H.drop p) ++ X2.toList.drop ((p + 1) * 2 + (hits (H.drop p)).length)).toArray:=⟨_,rfl⟩
 have hX3s : X3.size = G * 2:=by
  rw [hX3,List.size_toArray,List.length_append,List.length_append,List.length_take,List.length_drop,hdl,Array.length_toList,hX2s]
  omega
 have hX3r : X3.toList.take ((H.length + 1) * 2) = hits (H.take p ++ h :: H.drop p):=by
  have:=hits_seg H h p (by omega) ROW.toList G (by rw [Array.length_toList];exact hRs) hGn hR0
  rw [hX3,List.toList_toArray,hX2,List.toList_toArray]
  exact this
 have hcpB : ∀ ty dc,(Builtin.copy_ #[50,50] ty #[.slice (some ⟨W.heap.size,(p + 1) * 2,none⟩) (H.length + 1 - (p + 1)) dc,.slice (some ⟨b,p * 2,none⟩) (H.length - p) (H.length - p)]).run Tryz.prog W2.drew = .ok (goInt ((H.length - p : Nat) : Int)) (W2.drew.setRow W.heap.size X3):=fun ty dc=>by
  have:=run_copy_row2 (P:=Tryz.prog) W2.drew 50 50 ty 91 W.heap.size ((p + 1) * 2) (H.length + 1 - (p + 1)) dc ⟨b,p * 2,none⟩ (H.length - p) (H.length - p) X2 91 (hits (H.drop p)) Tryz.underlying50 hsz hN2 (H.length - p) (by simp only [Nat.min_def];split <;> omega) hdl
   (fun j v hj=>by
    rw [add_flat,World.cell?_of_block (show W2.drew.heap[b]? = W.heap[b]? from hk2 b hbw)]
    refine hcs _ v ?_
    rw [<- hj,<- List.getElem?_drop,Nat.mul_comm p 2]
    congr 1
    have e : ∀ (L : List Hit) k,(hits L).drop (2 * k) = hits (L.drop k):=by
     intro L
     induction L with
     | nil=>intro k;simp [hits]
     | cons t r ih =>
      intro k
      have e : hits (t :: r) = .int .i64 t.1 :: .int .i64 t.2 :: hits r:=by simp [hits,hcell]
      rcases k with _ | k
      ·simp
      ·rw [e,show 2 * (k + 1) = 2 * k + 1 + 1 by omega,List.drop_succ_cons,List.drop_succ_cons,ih,List.drop_succ_cons]
    exact e H p)
   (by rw [hX2s,hdl];omega) (hits_one _)
  rw [this,hX3]
 obtain ⟨W3,hW3⟩ : ∃ W3,W3 = W2.drew.setRow W.heap.size X3:=⟨_,rfl⟩
 rw [<- hW3] at hcpB
 have hN3 : W3.heap[W.heap.size]? = some (.cells X3 91 (0,0)):=by rw [hW3];exact setRow_heap W2.drew _ X2 X3 _ _ hN2
 have HF:=Lib.hid (show InsPost W base (.slice (some ⟨b,0,none⟩) H.length H.length) H h p (.returned (.slice (some ⟨W.heap.size,0,none⟩) (H.length + 1) G)) W3 from
  ⟨_,rfl,⟨by rw [hits_len];simp only [List.length_append,List.length_take,List.length_cons,List.length_drop];omega,.inr ⟨W.heap.size,G,X3,rfl,hbase,hN3,hGn,hG63,hX3s,hX3r⟩⟩,
   ⟨by rw [hW3,hW2];exact ho1.1,by rw [hW3,hW2];exact ho1.2.1,by rw [hW3,hW2];exact ho1.2.2,by rw [hW3];simp only [setRow_size];show W.heap.size <= W2.heap.size;rw [hW2,setRow_size,hs1];omega,fun x hx hne=>by rw [hW3,setRow_other _ _ _ _ (by omega)];exact hk2 x hx⟩,.inr rfl⟩)
 have hge : (0 : Int) <= (p : Int):=by omega
 have hle : (p : Int) <= (H.length : Int):=by omega
 have hne : ¬ ((p : Int) = (H.length : Int)):=by omega
 have hgt : (H.length : Int) < (H.length : Int) + 1:=by omega
 have e1 : (H.length : Int) + 1 - (p : Int) = ((H.length + 1 - p : Nat) : Int):=by omega
 have hGi : ¬ (G = p):=by omega
 have hGim : ¬ (G = p + 1):=by omega
 have hci : ¬ (H.length = p):=by omega
 have htn : ((p : Int) + 1).toNat = p + 1:=by omega
 have hb1 : (0 : Int) <= (p : Int) + 1:=by omega
 have hb2 : (p : Int) + 1 <= (H.length : Int) + 1:=by omega
 have hG64 : G <= 9223372036854775807:=by unfold maxLen at hG63;omega
 clear hold hik hG hROW hzc hRs hR0 hcs hvs hc0 hown hr hN1 hk1 hs1 ho1 hX2 hX2s hW2 hN2 hk2 hX3 hX3s hX3r hN3 hdl hW3 hW1
 rw [<- e1] at hrz
 have hw1 : IntKind.i64.wrap ((p : Int) + 1) = (p : Int) + 1:=by rw [IntKind.wrap_i64];omega
 have mixed : Tryz.prog.follows .mixedOrders = true:=by kernel_rfl
 clear e1 hgt hsz hz0 hzs hzb hi0
 generalize H.length = n at *
 generalize hits (H.take p ++ h :: H.drop p) = RES at *
 go_enter Tryz.func150,Tryz.ntmps150
 go_wp2_with (first
  | (at_builtin;refine Lib.wpList_append_run _ rfl _ _ _ _ rfl _ _ rfl rfl _ _ (hrz _) ?_)
  | (at_builtin;refine wpList_copy_runI _ rfl _ _ 50 50 rfl _ _ rfl rfl (hcpA _ _) ?_))
 go_region_law_o (refine step_copy_runI rfl _ _ 50 50 rfl (.slice (some ⟨W.heap.size,(p + 1) * 2,none⟩) (n + 1 - (p + 1)) (G - (p + 1))) (.slice (some ⟨b,p * 2,none⟩) (n - p) (n - p)) (by simp [Act.eval,Act.put]) (by simp [Act.eval,Act.put]) (hcpB 3 (G - (p + 1))) ?_)
 go_wp2
 go_ret
 exact HF.out
theorem hits_drop (L : List Hit) (k : Nat) : (hits L).drop (k * 2) = hits (L.drop k):=by
 induction L generalizing k with
 | nil=>simp [hits]
 | cons t r ih =>
  have e : hits (t :: r) = .int .i64 t.1 :: .int .i64 t.2 :: hits r:=by simp [hits,hcell]
  rcases k with _ | k
  ·simp
  ·rw [e,show (k + 1) * 2 = k * 2 + 1 + 1 by omega,List.drop_succ_cons,List.drop_succ_cons,ih,List.drop_succ_cons]
theorem ovl_no (W : World) (g b o : Nat) {x0 x1 : Value} (hr : Row W g 91 [x0,x1]) (cur : Array Value) (hb : W.heap[b]? = some (.cells cur 91 (0,0))) (hc : cur.size ≠ 0) (hne : g ≠ b) (lb cb : Nat) :
  (callFunc 181 #[.slice (some ⟨g,0,none⟩) 1 1,.slice (some ⟨b,o,none⟩) lb cb]).run Tryz.prog W = .ok (.value (.bool false)) W:=by
 have hsa : W.shape? g = some (91,2):=by
  unfold Row at hr
  simp only [World.shape?,hr]
  rfl
 have hsb : W.shape? b = some (91,cur.size):=by
  simp only [World.shape?,hb]
 rw [run_callFunc_extern Tryz.func181 (by kernel_rfl) (by kernel_rfl) (by kernel_rfl) (e:=Extern.SlicesOverlaps.overlaps #[50,50] #[4]) (by kernel_rfl),
  Lib.run_overlaps_apart W 50 4 91 Tryz.underlying50 2 Tryz.sizeOf91 ⟨g,0,none⟩ ⟨b,o,none⟩ 1 1 lb cb hne 91 91 2 cur.size hsa hsb hc (hr.frozen 0) (hr.frozen 2)]
 rfl
theorem ins_room (W : World) (base b c : Nat) (H : List Hit) (h : Hit) (g p : Nat) (hown : W.ownsRow base 91 2 (.slice (some ⟨b,0,none⟩) H.length c) H.length (hits H)) (hbase : base <= W.heap.size) (hr : Row W g 91 (hcell h)) (hgb : g ≠ b) (hn : H.length <= 1000) (hp : p < H.length) (hc : H.length + 1 <= c) :
  Calls Tryz.prog 150 #[.slice (some ⟨b,0,none⟩) H.length c,.int .i64 (p : Int),.slice (some ⟨g,0,none⟩) 1 1] W (InsPost W base (.slice (some ⟨b,0,none⟩) H.length c) H h p):=by
 have hc0:=hown.cells (g:=b) rfl
 have hbw:=(hown.lt b rfl).2
 have hvw:=hr.lt
 obtain ⟨cur,hb1,hbb,hcm,hcs2,hcur⟩ : ∃ cur,W.heap[b]? = some (.cells cur 91 (0,0)) /\ base <= b /\ c <= maxLen /\ cur.size = c * 2 /\ cur.toList.take (H.length * 2) = hits H:=by
  rcases hown.2 with ⟨h1,_⟩ | ⟨g1,c1,cur,h1,h2,h3,h4,h5,h6,h7⟩
  ·cases h1
  ·injection h1 with h1 _ h1c
   injection h1 with h1
   injection h1 with h1
   subst h1 h1c
   exact ⟨cur,h3,h2,h5,h6,h7⟩
 have hcs : ∀ j v,(hits H)[j]? = some v -> W.cell? ⟨b,j,none⟩ = some v:=fun j v hj=>by
  have:=hc0 j v hj
  rwa [add_flat,Nat.zero_add] at this
 have hvs : ∀ j v,(hits [h])[j]? = some v -> W.cell? ⟨g,j,none⟩ = some v:=fun j v hj=>hr.cell (by simpa [hits] using hj)
 have hR0 : cur.toList.take (p * 2) = hits (H.take p):=by
  rw [<- hits_take,<- hcur,List.take_take,Nat.min_eq_left (by omega),Nat.mul_comm]
 have hdl : (hits (H.drop p)).length = (H.length - p) * 2:=by rw [hits_len,List.length_drop]
 have hsz:=hit_size
 obtain ⟨X2,hX2⟩ : ∃ X2 : Array Value,X2 = (cur.toList.take ((p + 1) * 2) ++ hits (H.drop p) ++ cur.toList.drop ((p + 1) * 2 + (hits (H.drop p)).length)).toArray:=⟨_,rfl⟩
 have hX2s : X2.size = c * 2:=by
  rw [hX2,List.size_toArray,List.length_append,List.length_append,List.length_take,List.length_drop,hdl,Array.length_toList,hcs2]
  omega
 obtain ⟨W2,hW2⟩ : ∃ W2,W2 = W.drew.setRow b X2:=⟨_,rfl⟩
 have hN2 : W2.heap[b]? = some (.cells X2 91 (0,0)):=by rw [hW2];exact setRow_heap W.drew _ cur X2 _ _ hb1
 have hk2 : ∀ x,x ≠ b -> W2.heap[x]? = W.heap[x]?:=fun x hx=>by rw [hW2,setRow_other _ _ _ _ hx];rfl
 have hcpA : ∀ ty dc sc,(Builtin.copy_ #[50,50] ty #[.slice (some ⟨b,(p + 1) * 2,none⟩) (H.length + 1 - (p + 1)) dc,.slice (some ⟨b,p * 2,none⟩) (H.length + 1 - p) sc]).run Tryz.prog W.drew = .ok (goInt ((H.length - p : Nat) : Int)) W2:=fun ty dc sc=>by
  have:=run_copy_row2 (P:=Tryz.prog) W.drew 50 50 ty 91 b ((p + 1) * 2) (H.length + 1 - (p + 1)) dc ⟨b,p * 2,none⟩ (H.length + 1 - p) sc cur 91 (hits (H.drop p)) Tryz.underlying50 hsz hb1 (H.length - p) (by simp only [Nat.min_def];split <;> omega) hdl
   (fun j v hj=>by
    rw [add_flat]
    refine hcs _ v ?_
    rw [<- hj,<- hits_drop,List.getElem?_drop])
   (by rw [hcs2,hdl];omega) (hits_one _)
  rw [this,hW2,hX2]
 obtain ⟨X3,hX3⟩ : ∃ X3 : Array Value,X3 = (X2.toList.take (p * 2) ++ hits [h] ++ X2.toList.drop (p * 2 + (hits [h]).length)).toArray:=⟨_,rfl⟩
 have hX3s : X3.size = c * 2:=by
  rw [hX3,List.size_toArray,List.length_append,List.length_append,List.length_take,List.length_drop,hits_len,Array.length_toList,hX2s]
  simp only [List.length_cons,List.length_nil]
  omega
 have hX3r : X3.toList.take ((H.length + 1) * 2) = hits (H.take p ++ h :: H.drop p):=by
  have:=hits_seg' H h p (by omega) cur.toList c (by rw [Array.length_toList];exact hcs2) hc hR0
  rw [hX3,List.toList_toArray,hX2,List.toList_toArray]
  exact this
 have hcpB : ∀ ty dc,(Builtin.copy_ #[50,50] ty #[.slice (some ⟨b,p * 2,none⟩) (H.length + 1 - p) dc,.slice (some ⟨g,0,none⟩) 1 1]).run Tryz.prog W2 = .ok (goInt 1) (W2.setRow b X3):=fun ty dc=>by
  have:=run_copy_row2 (P:=Tryz.prog) W2 50 50 ty 91 b (p * 2) (H.length + 1 - p) dc ⟨g,0,none⟩ 1 1 X2 91 (hits [h]) Tryz.underlying50 hsz hN2 1 (by simp only [Nat.min_def];split <;> omega) rfl
   (fun j v hj=>by rw [add_flat,Nat.zero_add,World.cell?_of_block (hk2 g hgb)];exact hvs j v hj) (by rw [hX2s,hits_len];simp only [List.length_cons,List.length_nil];omega) (hits_one [h])
  rw [this,hX3]
  rfl
 obtain ⟨W3,hW3⟩ : ∃ W3,W3 = W2.setRow b X3:=⟨_,rfl⟩
 rw [<- hW3] at hcpB
 have hN3 : W3.heap[b]? = some (.cells X3 91 (0,0)):=by rw [hW3];exact setRow_heap W2 _ X2 X3 _ _ hN2
 have HF:=Lib.hid (show InsPost W base (.slice (some ⟨b,0,none⟩) H.length c) H h p (.returned (.slice (some ⟨b,0,none⟩) (H.length + 1) c)) W3 from
  ⟨_,rfl,⟨by rw [hits_len];simp only [List.length_append,List.length_take,List.length_cons,List.length_drop];omega,.inr ⟨b,c,X3,rfl,hbb,hN3,hc,hcm,hX3s,hX3r⟩⟩,
   ⟨by rw [hW3,hW2];rfl,by rw [hW3,hW2];rfl,by rw [hW3,hW2];rfl,by rw [hW3,setRow_size,hW2,setRow_size];exact Nat.le_refl _,fun x hx hne=>by rw [hW3,setRow_other _ _ _ _ (by simpa [Value.ownBlock] using hne)];exact hk2 x (by simpa [Value.ownBlock] using hne)⟩,.inl rfl⟩)
 have hov:=fun lb cb=>ovl_no W g b ((p + 1) * 2) hr cur hb1 (by omega) hgb lb cb
 have hge : (0 : Int) <= (p : Int):=by omega
 have hle : (p : Int) <= (H.length : Int):=by omega
 have hne : ¬ ((p : Int) = (H.length : Int)):=by omega
 have hci : ¬ (c = p):=by omega
 have hcip : ¬ (c = p + 1):=by omega
 have htn : ((p : Int) + 1).toNat = p + 1:=by omega
 have htn2 : ((H.length : Int) + 1).toNat = H.length + 1:=by omega
 have hb1' : (0 : Int) <= (p : Int) + 1:=by omega
 have hb2 : (p : Int) + 1 <= (H.length : Int) + 1:=by omega
 have hcz : (H.length : Int) + 1 <= (c : Int):=by omega
 have hb3 : (p : Int) <= (H.length : Int) + 1:=by omega
 have hpn : p <= H.length + 1:=by omega
 have hc64 : c <= 9223372036854775807:=by unfold maxLen at hcm;omega
 have hw1 : IntKind.i64.wrap ((p : Int) + 1) = (p : Int) + 1:=by rw [IntKind.wrap_i64];omega
 have mixed : Tryz.prog.follows .mixedOrders = true:=by kernel_rfl
 clear hc0 hown hr hb1 hcs2 hcur hcs hvs hR0 hdl hsz hX2 hX2s hW2 hN2 hk2 hX3 hX3s hX3r hN3 hW3 hcm
 generalize H.length = n at *
 generalize hits (H.take p ++ h :: H.drop p) = RES at *
 go_enter Tryz.func150,Tryz.ntmps150
 go_wp2_with (simp only [hov])
 go_region_law_o (refine step_copy_runI rfl _ _ 50 50 rfl (.slice (some ⟨b,(p + 1) * 2,none⟩) (n + 1 - (p + 1)) (c - (p + 1))) (.slice (some ⟨b,p * 2,none⟩) (n + 1 - p) (c - p)) (by simp [Act.eval,Act.put]) (by simp [Act.eval,Act.put]) (hcpA 3 (c - (p + 1)) (c - p)) ?_)
 go_wp2_with (at_builtin;refine wpList_copy_runI _ rfl _ _ 50 50 rfl _ _ rfl rfl (hcpB _ _) ?_)
 go_ret
 exact HF.out
theorem ins_any (W : World) (base : Nat) (A : Option Addr) (c : Nat) (H : List Hit) (h : Hit) (g p : Nat) (hown : W.ownsRow base 91 2 (.slice A H.length c) H.length (hits H)) (hbase : base <= W.heap.size) (hr : Row W g 91 (hcell h)) (hg : ∀ ad,A = some ad -> g ≠ ad.block) (hn : H.length <= 1000) (hp : p <= H.length) :
  Calls Tryz.prog 150 #[.slice A H.length c,.int .i64 (p : Int),.slice (some ⟨g,0,none⟩) 1 1] W (InsPost W base (.slice A H.length c) H h p):=by
 rcases Nat.eq_or_lt_of_le hp with e | hlt
 ·have:=ins_end W base A c H h g hown hbase hr hn
  rw [e]
  exact this
 ·obtain ⟨b,cap,hv,_,_⟩:=hown.form (by omega)
  injection hv with hA _ hcc
  subst hA
  obtain ⟨_,c',he,hnc,_⟩:=own_shape hown
  have hc' : c = c':=by injection he
  by_cases hroom : H.length + 1 <= c
  ·exact ins_room W base b c H h g p hown hbase hr (hg _ rfl) hn hlt hroom
  ·have e : c = H.length:=by omega
   subst e
   exact ins_grow W base b H h g p hown hbase hr hn hlt
end
end Go.Proofs.YtegjjhjgfkcbhaaGreatDoor
