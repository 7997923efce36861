/- BPutA DKit DNew DFind DPutT ERow. Conditions: as each part says. -/
import Derived.Test.YtegjjhjgfkcbhaaGreatDoorQ06
import Derived.Laws.BytesString
import Derived.Laws.Cells
import Derived.Deep.MidRow
import Derived.Lib.Hide
import Derived.LaidEqlPtr
import Derived.BigRegion
import Derived.Deep.RegionHeld3
set_option linter.unusedVariables false
set_option linter.unusedSimpArgs false
set_option maxRecDepth 100000
set_option maxHeartbeats 16000000
namespace Go.Proofs.YtegjjhjgfkcbhaaGreatDoor
namespace Be
section
open Go Go.RowKit
theorem foldl_push : ∀ (l : List UInt8) (r : ByteArray),((l.map fun b=>(b.toNat : Int)).foldl (fun r n=>r.push (UInt8.ofNat n.toNat)) r) = ⟨r.data ++ l.toArray⟩
 | [],r=>by simp
 | c :: cs,r=>by
  rw [List.map_cons,List.foldl_cons,foldl_push cs]
  simp [ByteArray.push]
theorem conv_row {w : World} {B : Nat} {v : Value} {bs : List UInt8} (hown : w.ownsRow B 5 1 v bs.length (Lib.byteCells bs)) (hne : 0 < bs.length) : ∀ src dst,Tryz.prog.underlying src = some (.slice 5) -> Tryz.prog.underlying dst = some .string -> (convert src dst v).run Tryz.prog w = .ok (.string ⟨bs.toArray⟩) w:=by
 intro src dst hs hd
 obtain ⟨g,cap,rfl,_,_⟩:=hown.form hne
 rw [run_convert_bytes_string (P:=Tryz.prog) w src dst 5 _ _ _ hs Tryz.underlying5 hd]
 have hc:=hown.cells (g:=g) rfl
 have hmap : Lib.byteCells bs = (bs.map fun b=>(b.toNat : Int)).map (Value.int .u8):=by simp [Lib.byteCells]
 have hl:=run_loadCells_list (P:=Tryz.prog) (w:=w) ⟨g,0,none⟩ (Lib.byteCells bs) hc
 rw [Lib.byteCells_length] at hl
 rw [run_bytesToString (P:=Tryz.prog) w ⟨g,0,none⟩ bs.length cap (bs.map fun b=>(b.toNat : Int)) (by rw [hl,hmap])]
 rw [foldl_push,show ByteArray.empty.data = #[] from rfl,Array.empty_append]
theorem enc_pos {t : T} (h : kindsOk t = true) : 0 < (enc t).length:=by
 obtain ⟨c,r,e,_⟩:=enc_head t h
 rw [e]
 simp
theorem put_start (w : World) (c0 c1 c2 c3 : Value) : WrAt ((w.alloc (.cells #[c0,c1,c2,c3] 202)).alloc (.cells #[.slice none 0 0] 250)) (w.heap.size + 1) (w.heap.size + 2) (.slice none 0 0) [] /\ Below w.heap.size w ((w.alloc (.cells #[c0,c1,c2,c3] 202)).alloc (.cells #[.slice none 0 0] 250)) /\
  ((w.alloc (.cells #[c0,c1,c2,c3] 202)).alloc (.cells #[.slice none 0 0] 250)).heap[w.heap.size]? = some (.cells #[c0,c1,c2,c3] 202 (0,0)):=by
 refine ⟨⟨?_,World.ownsRow_nil ..,by omega,by simp⟩,((Below.refl _ _).alloc (Nat.le_refl _) _).alloc (by simp) _,?_⟩
 ·have:=heap_alloc_new (w.alloc (.cells #[c0,c1,c2,c3] 202)) (.cells #[.slice none 0 0] 250)
  simpa using this
 ·rw [Below.heap_alloc _ _ _ (by simp)]
  exact heap_alloc_new w _
theorem put_ok (t : T) (v : Value) (w : World) (hRA : RdA (fun b=>b < w.heap.size) w t v) (hwf : wfT t = true) (hg : gdT t 0 [] = true) (hT : Tabs w w.heap.size) : Calls Tryz.prog 134 #[v] w fun e w'=>e = .returned (.tuple #[.string ⟨(enc t).toArray⟩,.int .i64 0]) /\ Below w.heap.size w w':=by
 have hpos:=enc_pos (gdT_iff.1 hg).1
 have hk:=hRA
 obtain ⟨A,c,rfl,_⟩:=hRA.rd
 obtain ⟨hw0,hb0,hblk⟩:=put_start w (.int .i64 t.k) (.int .i64 t.n) (.string t.s) (.slice A t.l.length c)
 have hT0:=(hT.on hb0).up (B:=w.heap.size + 1) (by omega)
 have hRA0:=(hk.keep (Keeps.of_below hb0 (fun b hb _=>hb))).mono (ok':=fun b=>b < w.heap.size + 1) (fun b hb _=>by omega)
 have hcall:=wvalue_of (w.heap.size + 1) (w.heap.size + 2) (SizeOf.sizeOf t + 1) t _ _ _ [] 0 0 (by omega) hRA0 hwf hw0 hT0 (by simp) rfl (by omega)
 rw [hg,List.nil_append] at hcall
 have HC:=Lib.hid hcall
 clear hcall hRA0 hT0 hk hg hwf
 generalize hbf : enc t = bf at *
 go_enter Tryz.func134,Tryz.ntmps134
 go_wp2_with fail
 generalize (w.alloc (.cells #[.int .i64 t.k,.int .i64 t.n,.string t.s,.slice A t.l.length c] 202)).alloc (.cells #[.slice none 0 0] 250) = w0 at *
 refine HC.out.mono ?_
 rintro e w1 ⟨rfl,hw1,hb1⟩
 obtain ⟨u,hw1'⟩:=hw1 rfl
 obtain ⟨k0,k1,k2⟩:=hw1'.cell
 have hcv:=conv_row hw1'.own hpos 139 9 Tryz.underlying139 Tryz.underlying9
 clear hw1
 go_wp2_with fail
 go_ret2
 exact ⟨rfl,hb0.trans (hb1.mono (by omega))⟩
end
end Be
namespace Be
section
open Go Go.RowKit
def Row (w : World) (g : Nat) (T : TypeId) (xs : List Value) : Prop:=w.heap[g]? = some (.cells xs.toArray T (0,0))
section
variable {w w' : World} {g : Nat} {T : TypeId} {xs : List Value}
theorem Row.lt (h : Row w g T xs) : g < w.heap.size:=(Array.getElem?_eq_some_iff.1 h).1
theorem Row.cell (h : Row w g T xs) {j : Nat} {u : Value} (hj : xs[j]? = some u) : w.cell? ⟨g,j,none⟩ = some u:=by
 unfold Row at h
 simp only [World.cell?,h]
 simpa using hj
theorem Row.frozen (h : Row w g T xs) (j : Nat) : w.frozen? ⟨g,j,none⟩ = false:=by
 unfold Row at h
 simp only [World.frozen?,h]
 simp
theorem Row.set (h : Row w g T xs) (j : Nat) (u : Value) : Row (w.setCell ⟨g,j,none⟩ u) g T (xs.set j u):=by
 unfold Row at *
 simp only [World.setCell,Array.getElem?_modify,h]
 simp
theorem Row.new (w : World) (T : TypeId) (xs : List Value) : Row (w.alloc (.cells xs.toArray T)) w.heap.size T xs:=by
 show (w.heap.push _)[w.heap.size]? = _
 simp
theorem Row.keep (h : Row w g T xs) (e : w'.heap[g]? = w.heap[g]?) : Row w' g T xs:=e.trans h
theorem Row.on (h : Row w g T xs) (hb : Below w.heap.size w w') : Row w' g T xs:=h.keep (hb.block g h.lt)
theorem Row.at_ (h : Row w g T xs) {B : Nat} (hb : Below B w w') (hB : g < B) : Row w' g T xs:=h.keep (hb.block g hB)
end
theorem heap_set_ne (w : World) (a : Addr) (u : Value) {b : Nat} (h : b ≠ a.block) : (w.setCell a u).heap[b]? = w.heap[b]?:=Below.heap_setCell w a u b h
theorem heap_alloc_lt (w : World) (o : Obj) {b : Nat} (h : b < w.heap.size) : (w.alloc o).heap[b]? = w.heap[b]?:=Below.heap_alloc w o b h
theorem Row.al {w : World} {g : Nat} {T : TypeId} {xs : List Value} (h : Row w g T xs) (o : Obj) : Row (w.alloc o) g T xs:=h.keep (heap_alloc_lt w o h.lt)
structure E where
 s : Int
 e : Int
 b : Bool
deriving DecidableEq
def e0 : E:=⟨0,0,false⟩
instance : Inhabited E:=⟨e0⟩
def ecell (x : E) : List Value:=[.int .i64 x.s,.int .i64 x.e,.bool x.b]
def qc (q : List E) : List Value:=q.flatMap ecell
def q0 : List E:=List.replicate 8 e0
def GoodE (x : E) : Prop:=(0 <= x.s /\ x.s <= 1099511627776) /\ (0 <= x.e /\ x.e <= 255) /\ (x.s = 0 -> x = e0)
structure Okq (q : List E) : Prop where
 len : q.length = 8
 good : ∀ x ∈ q,GoodE x
theorem okq0 : Okq q0:=⟨rfl,fun x hx=>by
 have : x = e0:=by simpa [q0] using hx
 subst this
 exact ⟨by decide,by decide,fun _=>rfl⟩⟩
theorem qc_len (q : List E) : (qc q).length = q.length * 3:=by
 unfold qc
 induction q with
 | nil=>simp
 | cons x r ih=>rw [List.flatMap_cons,List.length_append,ih];simp [ecell];omega
theorem qc_at (q : List E) : ∀ (k : Nat),k < q.length -> ∀ j,j < 3 -> (qc q)[k * 3 + j]? = (ecell q[k]!)[j]?:=by
 unfold qc
 induction q with
 | nil=>intro k hk;simp at hk
 | cons t r ih =>
  intro k hk j hj
  rw [List.flatMap_cons]
  rcases k with _ | k
  ·rw [List.getElem?_append_left (by show 0 * 3 + j < 3;omega)]
   simp
  ·rw [List.getElem?_append_right (by show 3 <= (k + 1) * 3 + j;omega)]
   rw [show (k + 1) * 3 + j - (ecell t).length = k * 3 + j from by show (k + 1) * 3 + j - 3 = _;omega,ih k (by simpa using hk) j hj]
   simp
theorem qc_one (q : List E) : ∀ v ∈ qc q,v.oneCell' = true:=by
 intro v hv
 obtain ⟨x,hx,hv⟩:=List.mem_flatMap.1 hv
 simp [ecell] at hv
 rcases hv with rfl | rfl | rfl <;> rfl
theorem qc_set (q : List E) : ∀ (k : Nat),k < q.length -> ∀ x : E,qc (q.set k x) = (((qc q).set (k * 3) (.int .i64 x.s)).set (k * 3 + 1) (.int .i64 x.e)).set (k * 3 + 2) (.bool x.b):=by
 unfold qc
 induction q with
 | nil=>intro k hk;simp at hk
 | cons t r ih =>
  intro k hk x
  rcases k with _ | k
  ·simp [ecell,List.flatMap_cons]
  ·rw [List.set_cons_succ,List.flatMap_cons,List.flatMap_cons,ih k (by simpa using hk) x]
   have key : ∀ (L : List Value) (i : Nat) (v : Value),3 <= i -> (ecell t ++ L).set i v = ecell t ++ L.set (i - 3) v:=fun L i v hi=>by
    rw [List.set_append_right i v (by show 3 <= i;exact hi)]
    rfl
   rw [key _ _ _ (by omega),key _ _ _ (by omega),key _ _ _ (by omega)]
   rw [show (k + 1) * 3 - 3 = k * 3 by omega,show (k + 1) * 3 + 1 - 3 = k * 3 + 1 by omega,show (k + 1) * 3 + 2 - 3 = k * 3 + 2 by omega]
theorem Okq.at_ {q : List E} (h : Okq q) {k : Nat} (hk : k < 8) : GoodE q[k]!:=by
 have hl:=h.len
 rw [List.getElem!_eq_getElem?_getD,List.getElem?_eq_getElem (by omega)]
 exact h.good _ (List.getElem_mem _)
theorem Okq.set {q : List E} (h : Okq q) (k : Nat) {x : E} (hx : GoodE x) : Okq (q.set k x):=by
 refine ⟨by rw [List.length_set];exact h.len,fun y hy=>?_⟩
 rcases List.mem_or_eq_of_mem_set hy with hy | rfl
 ·exact h.good _ hy
 ·exact hx
theorem set_get (q : List E) {k : Nat} (hk : k < q.length) (x : E) : (q.set k x)[k]! = x:=by
 rw [List.getElem!_eq_getElem?_getD,List.getElem?_set_self hk]
 rfl
structure TabAt (w : World) (p : Nat) (q : List E) : Prop where
 row : Row w p 136 (.pointer (some ⟨p,0,none⟩) :: qc q)
 ok : Okq q
theorem TabAt.keep {w w' : World} {p : Nat} {q : List E} (h : TabAt w p q) (e : w'.heap[p]? = w.heap[p]?) : TabAt w' p q:=⟨h.row.keep e,h.ok⟩
theorem TabAt.on {w w' : World} {p : Nat} {q : List E} (h : TabAt w p q) (hb : Below w.heap.size w w') : TabAt w' p q:=⟨h.row.on hb,h.ok⟩
theorem TabAt.c0 {w : World} {p : Nat} {q : List E} (h : TabAt w p q) : w.cell? ⟨p,0,none⟩ = some (.pointer (some ⟨p,0,none⟩)):=h.row.cell rfl
theorem TabAt.cell {w : World} {p : Nat} {q : List E} (h : TabAt w p q) {k : Nat} (hk : k < 8) : w.cell? ⟨p,1 + k * 3,none⟩ = some (.int .i64 q[k]!.s) /\ w.cell? ⟨p,1 + k * 3 + 1,none⟩ = some (.int .i64 q[k]!.e) /\ w.cell? ⟨p,1 + k * 3 + 2,none⟩ = some (.bool q[k]!.b):=by
 have hl:=h.ok.len
 have g : ∀ j u,j < 3 -> (ecell q[k]!)[j]? = some u -> w.cell? ⟨p,1 + k * 3 + j,none⟩ = some u:=fun j u hj hu=>by
  apply h.row.cell
  rw [show 1 + k * 3 + j = (k * 3 + j) + 1 by omega,List.getElem?_cons_succ,qc_at q k (by omega) j hj,hu]
 exact ⟨g 0 _ (by omega) rfl,g 1 _ (by omega) rfl,g 2 _ (by omega) rfl⟩
theorem grown_refl (w : World) (r : Option Nat) : w.grownBy w r:=⟨rfl,rfl,rfl,Nat.le_refl _,fun _ _ _=>rfl⟩
theorem grown_keep {w w' : World} {p b : Nat} (h : w.grownBy w' (some p)) (hb : b < w.heap.size) (hne : b ≠ p) : w'.heap[b]? = w.heap[b]?:=h.block b hb (by simpa using hne)
end
end Be
namespace Be
section
open Go Go.RowKit
theorem new_any (w : World) : Calls Tryz.prog 101 #[] w fun e w'=>∃ p,e = .returned (.pointer (some ⟨p,0,none⟩)) /\ TabAt w' p q0 /\ w.heap.size <= p /\ Below w.heap.size w w':=by
 go_enter Tryz.func101,Tryz.ntmps101
 go_wp2
 go_ret
 exact ⟨w.heap.size,rfl,⟨Row.new w 136 (.pointer (some ⟨w.heap.size,0,none⟩) :: qc q0),okq0⟩,Nat.le_refl _,(Below.refl _ _).alloc (Nat.le_refl _) _⟩
theorem ret_b {a b : Bool} (h : a = b) : Ending.returned (.bool a) = .returned (.bool b):=by rw [h]
def cliB (n : Int) : Bool:=decide (0 <= n /\ n < 8)
def seqB (n : Int) : Bool:=decide (1 <= n /\ n <= 1099511627776)
def errB (n : Int) : Bool:=decide (0 <= n /\ n <= 255)
theorem isClient_any (n : Int) (w : World) : Calls Tryz.prog 73 #[.int .i64 n] w fun e w'=>e = .returned (.bool (cliB n)) /\ w = w':=by
 go_enter Tryz.func73,Tryz.ntmps73
 go_wp2
 all_goals go_ret
 all_goals exact ⟨ret_b (by unfold cliB;rw [Bool.eq_iff_iff];simp;try omega),rfl⟩
theorem isSeq_any (n : Int) (w : World) : Calls Tryz.prog 74 #[.int .i64 n] w fun e w'=>e = .returned (.bool (seqB n)) /\ w = w':=by
 go_enter Tryz.func74,Tryz.ntmps74
 go_wp2
 all_goals go_ret
 all_goals exact ⟨ret_b (by unfold seqB;rw [Bool.eq_iff_iff];simp;try omega),rfl⟩
theorem isErr_any (n : Int) (w : World) : Calls Tryz.prog 243 #[.int .i64 n] w fun e w'=>e = .returned (.bool (errB n)) /\ w = w':=by
 go_enter Tryz.func243,Tryz.ntmps243
 go_wp2
 all_goals go_ret
 all_goals exact ⟨ret_b (by unfold errB;rw [Bool.eq_iff_iff];simp;try omega),rfl⟩
theorem table_row : (Tryz.prog.info? 136).map (fun i=>i.size) = some 25:=by kernel_rfl
theorem eql_self (p : Nat) (w : World) : (binOp .eql 95 (.pointer (some ⟨p,0,none⟩)) (.pointer (some ⟨p,0,none⟩))).run Tryz.prog w = .ok (.bool true) w:=by
 obtain ⟨i,hi,_⟩:=Option.map_eq_some_iff.1 table_row
 exact run_eql_ptr_same w _ Tryz.underlying95 hi
theorem given_any {w : World} {p : Nat} {q : List E} (h : TabAt w p q) : Calls Tryz.prog 72 #[.pointer (some ⟨p,0,none⟩)] w fun e w'=>e = .returned (.bool true) /\ w = w':=by
 have h0:=h.c0
 have he:=eql_self p w
 clear h
 go_enter Tryz.func72,Tryz.ntmps72
 go_wp2
 go_ret
 exact ⟨rfl,rfl⟩
end
end Be
namespace Be
section
open Go Go.RowKit
def mayB (c n : Int) : Bool:=cliB c && seqB n
def findM (q : List E) (c n : Int) : (Int × Bool) × Int :=
 if mayB c n = true then (if n < q[c.toNat]!.s then ((0,false),90) else if q[c.toNat]!.s < n then ((0,false),3) else ((q[c.toNat]!.e,q[c.toNat]!.b),0)) else ((0,false),1)
def repV (r : Int × Bool) : Value:=.agg #[.int .i64 r.1,.bool r.2,.slice none 0 0]
theorem cli_nat {c : Int} (h : cliB c = true) : ∃ k : Nat,c = (k : Int) /\ k < 8:=by
 unfold cliB at h
 simp at h
 exact ⟨c.toNat,by omega,by omega⟩
def GivenIs (v : Value) (g : Bool) : World -> Prop:=fun w=>Calls Tryz.prog 72 #[v] w fun e w'=>e = .returned (.bool g) /\ w = w'
theorem find_arg {w : World} (v : Value) {g : Bool} (hg1 : ∀ w1,Below w.heap.size w w1 -> GivenIs v g w1) (c n : Int) (h : g = false \/ mayB c n = false) :
  Calls Tryz.prog 47 #[v,.int .i64 c,.int .i64 n] w fun e w'=>e = .returned (.tuple #[repV (0,false),.int .i64 1]) /\ Below w.heap.size w w':=by
 have hc:=Lib.hid (fun w1=>isClient_any c w1)
 have hs:=Lib.hid (fun w1=>isSeq_any n w1)
 unfold mayB at h
 generalize cliB c = bc at *
 generalize seqB n = bs at *
 have hB : Below w.heap.size w (w.alloc (.cells #[.int .i64 0,.bool false,.slice none 0 0] 52)):=(Below.refl _ _).alloc (Nat.le_refl _) _
 have hg:=Lib.hid (hg1 _ hB)
 unfold GivenIs at hg
 clear hg1
 rcases g with _ | _
 ·go_enter Tryz.func47,Tryz.ntmps47
  go_wp2_with (first | (refine (hg.out).mono ?_;rintro e w1 ⟨rfl,rfl⟩))
  refine bodyPost_ret (v:=.tuple #[repV (0,false),.int .i64 1]) (by simp [results,Tryz.results47,go_sem,repV]) rfl ⟨rfl,?_⟩
  exact hB
 ·rcases bc with _ | _
  ·go_enter Tryz.func47,Tryz.ntmps47
   go_wp2_with (first | (refine (hg.out).mono ?_;rintro e w1 ⟨rfl,rfl⟩) | (refine (hc.out _).mono ?_;rintro e w1 ⟨rfl,rfl⟩))
   refine bodyPost_ret (v:=.tuple #[repV (0,false),.int .i64 1]) (by simp [results,Tryz.results47,go_sem,repV]) rfl ⟨rfl,?_⟩
   exact hB
  ·obtain rfl : bs = false:=by simpa using h
   go_enter Tryz.func47,Tryz.ntmps47
   go_wp2_with (first | (refine (hg.out).mono ?_;rintro e w1 ⟨rfl,rfl⟩) | (refine (hc.out _).mono ?_;rintro e w1 ⟨rfl,rfl⟩) | (refine (hs.out _).mono ?_;rintro e w1 ⟨rfl,rfl⟩))
   refine bodyPost_ret (v:=.tuple #[repV (0,false),.int .i64 1]) (by simp [results,Tryz.results47,go_sem,repV]) rfl ⟨rfl,?_⟩
   exact hB
theorem Below.given {w w1 : World} {p : Nat} {q : List E} (h : TabAt w p q) (hb : Below w.heap.size w w1) : GivenIs (.pointer (some ⟨p,0,none⟩)) true w1:=given_any (h.on hb)
theorem find_any {w : World} {p : Nat} {q : List E} (h : TabAt w p q) (c n : Int) : Calls Tryz.prog 47 #[.pointer (some ⟨p,0,none⟩),.int .i64 c,.int .i64 n] w fun e w'=>e = .returned (.tuple #[repV (findM q c n).1,.int .i64 (findM q c n).2]) /\ Below w.heap.size w w':=by
 unfold findM
 by_cases hm : mayB c n = true
 ·rw [if_pos hm]
  have hm':=hm
  unfold mayB at hm
  simp only [Bool.and_eq_true] at hm
  obtain ⟨hb,hs0⟩:=hm
  have hc:=Lib.hid (fun w1=>isClient_any c w1)
  have hs:=Lib.hid (fun w1=>isSeq_any n w1)
  rw [hb] at hc
  rw [hs0] at hs
  obtain ⟨k,rfl,hk⟩:=cli_nat hb
  have hB : Below w.heap.size w (w.alloc (.cells #[.int .i64 0,.bool false,.slice none 0 0] 52)):=(Below.refl _ _).alloc (Nat.le_refl _) _
  have hB2 : ∀ u0 u1 u2,Below w.heap.size w ((w.alloc (.cells #[.int .i64 0,.bool false,.slice none 0 0] 52)).alloc (.cells #[u0,u1,u2] 133)):=fun u0 u1 u2=>hB.alloc (by simp) _
  have hpl:=h.row.lt
  obtain ⟨c1,c2,c3⟩:=(h.on hB).cell hk
  have hg:=Lib.hid (given_any (h.on hB))
  rw [show ((k : Int)).toNat = k from rfl]
  generalize q[k]! = x at *
  obtain ⟨xs,xe,xb⟩:=x
  simp only at c1 c2 c3 ⊢
  have hk2 : (k : Int) < 8:=by omega
  clear h hb hm' hs0
  by_cases h1 : n < xs
  ·rw [if_pos h1]
   go_enter Tryz.func47,Tryz.ntmps47
   go_wp2_with (first | (refine (hg.out).mono ?_;rintro e w1 ⟨rfl,rfl⟩) | (refine (hc.out _).mono ?_;rintro e w1 ⟨rfl,rfl⟩) | (refine (hs.out _).mono ?_;rintro e w1 ⟨rfl,rfl⟩))
   refine bodyPost_ret (v:=.tuple #[repV (0,false),.int .i64 90]) (by simp [results,Tryz.results47,go_sem,repV]) rfl ⟨rfl,?_⟩
   exact hB2 _ _ _
  ·rw [if_neg h1]
   by_cases h2 : xs < n
   ·rw [if_pos h2]
    go_enter Tryz.func47,Tryz.ntmps47
    go_wp2_with (first | (refine (hg.out).mono ?_;rintro e w1 ⟨rfl,rfl⟩) | (refine (hc.out _).mono ?_;rintro e w1 ⟨rfl,rfl⟩) | (refine (hs.out _).mono ?_;rintro e w1 ⟨rfl,rfl⟩))
    refine bodyPost_ret (v:=.tuple #[repV (0,false),.int .i64 3]) (by simp [results,Tryz.results47,go_sem,repV]) rfl ⟨rfl,?_⟩
    exact hB2 _ _ _
   ·rw [if_neg h2]
    go_enter Tryz.func47,Tryz.ntmps47
    go_wp2_with (first | (refine (hg.out).mono ?_;rintro e w1 ⟨rfl,rfl⟩) | (refine (hc.out _).mono ?_;rintro e w1 ⟨rfl,rfl⟩) | (refine (hs.out _).mono ?_;rintro e w1 ⟨rfl,rfl⟩))
    refine bodyPost_ret (v:=.tuple #[repV (xe,xb),.int .i64 0]) (by simp [results,Tryz.results47,go_sem,repV]) rfl ⟨rfl,?_⟩
    exact ((Below.refl _ _).alloc (Nat.le_refl _) _).alloc (by simp) _
 ·have hm : mayB c n = false:=by simpa using hm
  rw [hm]
  exact find_arg _ (g:=true) (fun w1 hb=>Below.given h hb) c n (.inr hm)
end
end Be
namespace Be
section
open Go Go.RowKit
def putM (q : List E) (c n : Int) (e : Int) (b : Bool) : List E × Int :=
 if (mayB c n && errB e) = true then (if n <= q[c.toNat]!.s then (q,90) else (q.set c.toNat ⟨n,e,b⟩,0)) else (q,1)
theorem putM_ok {q : List E} (h : Okq q) (c n e : Int) (b : Bool) : Okq (putM q c n e b).1:=by
 unfold putM
 split
 ·rename_i hm
  simp only [Bool.and_eq_true,mayB,cliB,seqB,errB,decide_eq_true_eq] at hm
  obtain ⟨⟨m1,m2,m3⟩,m4,m5⟩:=hm
  split
  ·exact h
  ·exact h.set _ ⟨⟨by show (0 : Int) <= n;omega,m3⟩,⟨m4,m5⟩,fun (e0 : n = 0)=>by omega⟩
 ·exact h
theorem put_arg {w : World} (v : Value) {g : Bool} (H : Value) (e : Int) (b : Bool) (hg1 : ∀ w1,Below w.heap.size w w1 -> GivenIs v g w1) (c n : Int) (h : g = false \/ (mayB c n && errB e) = false) :
  Calls Tryz.prog 222 #[v,.int .i64 c,.int .i64 n,.agg #[.int .i64 e,.bool b,H]] w fun e w'=>e = .returned (.int .i64 1) /\ Below w.heap.size w w':=by
 have hc:=Lib.hid (fun w1=>isClient_any c w1)
 have hs:=Lib.hid (fun w1=>isSeq_any n w1)
 have he:=Lib.hid (fun w1=>isErr_any e w1)
 unfold mayB at h
 generalize cliB c = bc at *
 generalize seqB n = bs at *
 generalize errB e = be at *
 have hB : Below w.heap.size w (w.alloc (.cells #[.int .i64 e,.bool b,H] 52)):=(Below.refl _ _).alloc (Nat.le_refl _) _
 have hg:=Lib.hid (hg1 _ hB)
 unfold GivenIs at hg
 clear hg1
 rcases g with _ | _
 ·go_enter Tryz.func222,Tryz.ntmps222
  go_wp2_with (first | (refine (hg.out).mono ?_;rintro e w1 ⟨rfl,rfl⟩))
  go_ret
  exact ⟨rfl,hB⟩
 ·rcases bc with _ | _
  ·go_enter Tryz.func222,Tryz.ntmps222
   go_wp2_with (first | (refine (hg.out).mono ?_;rintro e w1 ⟨rfl,rfl⟩) | (refine (hc.out _).mono ?_;rintro e w1 ⟨rfl,rfl⟩))
   go_ret
   exact ⟨rfl,hB⟩
  ·rcases bs with _ | _
   ·go_enter Tryz.func222,Tryz.ntmps222
    go_wp2_with (first | (refine (hg.out).mono ?_;rintro e w1 ⟨rfl,rfl⟩) | (refine (hc.out _).mono ?_;rintro e w1 ⟨rfl,rfl⟩) | (refine (hs.out _).mono ?_;rintro e w1 ⟨rfl,rfl⟩))
    go_ret
    exact ⟨rfl,hB⟩
   ·obtain rfl : be = false:=by simpa using h
    go_enter Tryz.func222,Tryz.ntmps222
    go_wp2_with (first | (refine (hg.out).mono ?_;rintro e w1 ⟨rfl,rfl⟩) | (refine (hc.out _).mono ?_;rintro e w1 ⟨rfl,rfl⟩) | (refine (hs.out _).mono ?_;rintro e w1 ⟨rfl,rfl⟩) | (refine (he.out _).mono ?_;rintro e w1 ⟨rfl,rfl⟩))
    go_ret
    exact ⟨rfl,hB⟩
def PutPost (p : Nat) (r : List E × Int) (w : World) (e : Ending) (w' : World) : Prop:=e = .returned (.int .i64 r.2) /\ TabAt w' p r.1 /\ w.grownBy w' (some p)
theorem put_any {w : World} {p : Nat} {q : List E} (h : TabAt w p q) (c n e : Int) (b : Bool) (H : Value) : Calls Tryz.prog 222 #[.pointer (some ⟨p,0,none⟩),.int .i64 c,.int .i64 n,.agg #[.int .i64 e,.bool b,H]] w (PutPost p (putM q c n e b) w):=by
 have hok:=putM_ok h.ok c n e b
 unfold putM at hok ⊢
 by_cases hm : (mayB c n && errB e) = true
 ·rw [if_pos hm] at hok ⊢
  have hm':=hm
  unfold mayB at hm
  simp only [Bool.and_eq_true] at hm
  obtain ⟨⟨hb,hs0⟩,he0⟩:=hm
  have hc:=Lib.hid (fun w1=>isClient_any c w1)
  have hs:=Lib.hid (fun w1=>isSeq_any n w1)
  have he:=Lib.hid (fun w1=>isErr_any e w1)
  rw [hb] at hc
  rw [hs0] at hs
  rw [he0] at he
  obtain ⟨k,rfl,hk⟩:=cli_nat hb
  have hB : Below w.heap.size w (w.alloc (.cells #[.int .i64 e,.bool b,H] 52)):=(Below.refl _ _).alloc (Nat.le_refl _) _
  have hpl:=h.row.lt
  have h2:=h.on hB
  have hfz:=fun j=>h2.row.frozen j
  obtain ⟨c1,c2,c3⟩:=h2.cell hk
  obtain ⟨d1,d2,d3⟩:=h.cell hk
  have hfw:=fun j=>h.row.frozen j
  have hg:=Lib.hid (given_any h2)
  have HH:=Lib.hid h2
  have HR:=Lib.hid h.row
  rw [show ((k : Int)).toNat = k from rfl] at hok ⊢
  have hk2 : (k : Int) < 8:=by omega
  by_cases h1 : n <= q[k]!.s
  ·rw [if_pos h1] at hok ⊢
   generalize q[k]! = x at *
   obtain ⟨xs,xe,xb⟩:=x
   simp only at c1 c2 c3 h1
   clear h hb hm' hs0 he0 h2
   go_enter Tryz.func222,Tryz.ntmps222
   go_wp2_with (first | (refine (hg.out).mono ?_;rintro e w1 ⟨rfl,rfl⟩) | (refine (hc.out _).mono ?_;rintro e w1 ⟨rfl,rfl⟩) | (refine (hs.out _).mono ?_;rintro e w1 ⟨rfl,rfl⟩) | (refine (he.out _).mono ?_;rintro e w1 ⟨rfl,rfl⟩))
   go_ret
   exact ⟨rfl,HH.out,grown_below hB _⟩
  ·rw [if_neg h1] at hok ⊢
   have hset:=Lib.hid (qc_set q k (by rw [h.ok.len];exact hk) ⟨n,e,b⟩)
   generalize hx : q[k]! = x at *
   obtain ⟨xs,xe,xb⟩:=x
   simp only at c1 c2 c3 h1
   have hx:=Lib.hid hx
   clear h hb hm' hs0 he0 h2
   go_enter Tryz.func222,Tryz.ntmps222
   go_wp2_with (first | (refine (hg.out).mono ?_;rintro e w1 ⟨rfl,rfl⟩) | (refine (hc.out _).mono ?_;rintro e w1 ⟨rfl,rfl⟩) | (refine (hs.out _).mono ?_;rintro e w1 ⟨rfl,rfl⟩) | (refine (he.out _).mono ?_;rintro e w1 ⟨rfl,rfl⟩))
   go_region
   all_goals go_wp2_with fail
   go_ret
   refine ⟨rfl,⟨?_,hok⟩,?_⟩
   ·have h3:=((HR.out.set (1 + k * 3) (.int .i64 n)).set (1 + k * 3 + 1) (.int .i64 e)).set (1 + k * 3 + 2) (.bool b)
    have e3 : (((Value.pointer (some ⟨p,0,none⟩) :: qc q).set (1 + k * 3) (.int .i64 n)).set (1 + k * 3 + 1) (.int .i64 e)).set (1 + k * 3 + 2) (.bool b) = .pointer (some ⟨p,0,none⟩) :: qc (q.set k ⟨n,e,b⟩):=by
     rw [hset.out,show 1 + k * 3 = k * 3 + 1 by omega,List.set_cons_succ,show k * 3 + 1 + 1 = (k * 3 + 1) + 1 by omega,List.set_cons_succ,show k * 3 + 1 + 2 = (k * 3 + 2) + 1 by omega,List.set_cons_succ]
    rw [e3] at h3
    exact (h3.al _).keep rfl
   ·have g0 : w.grownBy w (some p):=grown_refl w _
    have g1:=grown_setCell (grown_setCell (grown_setCell g0 ⟨p,1 + k * 3,none⟩ rfl (.int .i64 n)) ⟨p,1 + k * 3 + 1,none⟩ rfl (.int .i64 e)) ⟨p,1 + k * 3 + 2,none⟩ rfl (.bool b)
    refine grown_then g1 (grown_below ?_ _)
    exact ((Below.refl _ _).alloc (Nat.le_refl _) _).drew
 ·rw [if_neg hm] at hok ⊢
  refine (put_arg _ (g:=true) H e b (fun w1 hb=>Below.given h hb) c n (.inr (by simpa using hm))).mono ?_
  rintro e w1 ⟨rfl,hb⟩
  exact ⟨rfl,h.on hb,grown_below hb _⟩
end
end Be
namespace Be
section
open Go Go.RowKit
theorem setRow_facts {W : World} {b : Nat} {T : TypeId} {xs : List Value} (hR : Row W b T xs) (ys : List Value) : Row (W.setRow b ys.toArray) b T ys /\ (W.setRow b ys.toArray).heap.size = W.heap.size /\ W.grownBy (W.setRow b ys.toArray) (some b):=by
 unfold Row at *
 refine ⟨?_,?_,rfl,rfl,rfl,?_,fun i hi hne=>?_⟩
 ·simp only [World.setRow,Array.getElem?_modify,if_true,hR]
  rfl
 ·simp [World.setRow]
 ·simp [World.setRow]
 ·simp only [World.setRow,Array.getElem?_modify]
  have : b ≠ i:=fun e=>hne (by rw [e])
  rw [if_neg this]
def tN (n : Int) : T:=.mk 1 n .empty []
def tR (c s e b : Int) : T:=.mk 3 0 .empty [tN c,tN s,tN e,tN b]
def ncell (n : Int) : List Value:=[.int .i64 1,.int .i64 n,.string ⟨#[]⟩,.slice none 0 0]
theorem rd_tN (n : Int) (w : World) (ok : Nat -> Prop) : Rd ok w (tN n) (ncell n):=⟨none,0,[],rfl,by simp [maxLen],by simp,by simp [maxLen],ReadsP.none_,rfl⟩
def rcells (c s e b : Int) : List Value:=ncell c ++ (ncell s ++ (ncell e ++ (ncell b ++ [])))
theorem rdl4 (c s e b : Int) (w : World) (ok : Nat -> Prop) : RdL ok w [tN c,tN s,tN e,tN b] (rcells c s e b) :=
 ⟨ncell c,_,rfl,rd_tN c w ok,⟨ncell s,_,rfl,rd_tN s w ok,⟨ncell e,_,rfl,rd_tN e w ok,⟨ncell b,[],rfl,rd_tN b w ok,rfl⟩⟩⟩⟩
theorem rcells_one (c s e b : Int) : ∀ u ∈ rcells c s e b,u.oneCell' = true:=fun u hu=>List.all_eq_true.1 (show ((rcells c s e b).all fun u=>u.oneCell') = true from rfl) u hu
def Tr : Nat -> Prop:=fun _=>True
theorem reads_new {w : World} {T : TypeId} {xs : List Value} {n size : Nat} (hl : xs.length = n * size) : ReadsP Tr (w.alloc (.cells xs.toArray T)) size (some ⟨w.heap.size,0,none⟩) n xs:=by
 have hr:=Row.new w T xs
 exact ⟨hl,fun _=>⟨_,rfl,trivial,by simp,hr.frozen 0,fun j u hj=>by rw [add_flat,Nat.zero_add];exact hr.cell hj⟩⟩
structure RB (w : World) (s e : Int) (b : Bool) (w' : World) : Prop where
 below : Below w.heap.size w w'
 x : Row w' w.heap.size 133 [.int .i64 s,.int .i64 e,.bool b]
 r : Row w' (w.heap.size + 1) 202 [.int .i64 0,.int .i64 0,.string ⟨#[]⟩,.slice none 0 0]
theorem RB.on {w w1 w2 : World} {s e : Int} {b : Bool} (h : RB w s e b w1) (hb : Below w1.heap.size w1 w2) : RB w s e b w2:=⟨h.below.trans (hb.mono h.below.size),h.x.on hb,h.r.on hb⟩
theorem RB.cells {w w1 : World} {s e : Int} {b : Bool} (h : RB w s e b w1) : w1.cell? ⟨w.heap.size,0,none⟩ = some (.int .i64 s) /\ w1.cell? ⟨w.heap.size,1,none⟩ = some (.int .i64 e):=⟨h.x.cell rfl,h.x.cell rfl⟩
theorem RB.res {w w1 : World} {s e : Int} {b : Bool} (h : RB w s e b w1) : w1.cell? ⟨w.heap.size + 1,0,none⟩ = some (.int .i64 0) /\ w1.cell? ⟨w.heap.size + 1,1,none⟩ = some (.int .i64 0) /\ w1.cell? ⟨w.heap.size + 1,2,none⟩ = some (.string ⟨#[]⟩) /\ w1.cell? ⟨w.heap.size + 1,3,none⟩ = some (.slice none 0 0) /\ (∀ j,w1.frozen? ⟨w.heap.size + 1,j,none⟩ = false) /\ w.heap.size + 1 < w1.heap.size :=
 ⟨h.r.cell rfl,h.r.cell rfl,h.r.cell rfl,h.r.cell rfl,fun j=>h.r.frozen j,h.r.lt⟩
def LPost (w : World) (s e : Int) (b : Bool) (c m : Int) (en : Ending) (w2 : World) : Prop :=
 ∃ A k,en = .returned (.agg #[.int .i64 3,.int .i64 0,.string ⟨#[]⟩,.slice A 4 k]) /\ RdA (fun bl=>w.heap.size + 2 <= bl) w2 (tR c s e m) (.agg #[.int .i64 3,.int .i64 0,.string ⟨#[]⟩,.slice A 4 k]) /\ RB w s e b w2
theorem list_row {w : World} {s e : Int} {b : Bool} (c m : Int) {w1 : World} (h : RB w s e b w1) : Calls Tryz.prog 135 #[.slice (some ⟨w1.heap.size,0,none⟩) 4 4] (w1.alloc (.cells (rcells c s e m).toArray 202)) (LPost w s e b c m):=by
 have hs1 : w.heap.size + 1 < w1.heap.size:=h.r.lt
 have hb1 : Below w1.heap.size w1 (w1.alloc (.cells (rcells c s e m).toArray 202)):=(Below.refl _ _).alloc (Nat.le_refl _) _
 refine (list_any (some ⟨w1.heap.size,0,none⟩) 4 4 Tr (rcells c s e m) _ (reads_new (n:=4) rfl) (by omega) (rcells_one c s e m)).mono ?_
 rintro en w2 ⟨v,rfl,hown,hb⟩
 obtain ⟨A',k',rfl,hk1,hk2⟩:=own_shape hown
 have hsz : (w1.alloc (.cells (rcells c s e m).toArray 202)).heap.size = w1.heap.size + 1:=by simp
 refine ⟨A',k',rfl,⟨A',k',rcells c s e m,rfl,by simp [tR,T.s,maxLen],by simpa [tR,T.l] using hk1,hk2,?_,rdl4 c s e m w2 _⟩,h.on (hb1.trans (hb.mono (by omega)))⟩
 exact (ReadsP.of_own hown).mono (fun bl hbl _=>by simp only [hsz] at hbl;omega)
theorem row_any (c s e : Int) (b : Bool) (w : World) : Calls Tryz.prog 159 #[.int .i64 c,.agg #[.int .i64 s,.int .i64 e,.bool b]] w fun en w'=>∃ A k,en = .returned (.agg #[.int .i64 3,.int .i64 0,.string ⟨#[]⟩,.slice A 4 k]) /\ RdA (fun bl=>w.heap.size <= bl) w' (tR c s e (if b then 1 else 0)) (.agg #[.int .i64 3,.int .i64 0,.string ⟨#[]⟩,.slice A 4 k]) /\ Below w.heap.size w w':=by
 obtain ⟨W,hW⟩ : ∃ W,(w.alloc (.cells #[.int .i64 s,.int .i64 e,.bool b] 133)).alloc (.cells #[.int .i64 0,.int .i64 0,.string ⟨#[]⟩,.slice none 0 0] 202) = W:=⟨_,rfl⟩
 have h0 : RB w s e b W:=by
  rw [<- hW]
  refine ⟨((Below.refl _ _).alloc (Nat.le_refl _) _).alloc (by simp) _,(Row.new w _ [.int .i64 s,.int .i64 e,.bool b]).al _,?_⟩
  have:=Row.new (w.alloc (.cells #[.int .i64 s,.int .i64 e,.bool b] 133)) 202 [.int .i64 0,.int .i64 0,.string ⟨#[]⟩,.slice none 0 0]
  simpa using this
 have h1 : RB w s e b W.drew:=h0.on ((Below.refl _ W).drew)
 have HI:=Lib.hid (show ∀ (n : Int) (w1 : World),RB w s e b w1 -> Calls Tryz.prog 130 #[.int .i64 n] w1 (fun en w2=>en = .returned (.agg #[.int .i64 1,.int .i64 n,.string ⟨#[]⟩,.slice none 0 0]) /\ RB w s e b w2 /\ (w2.cell? ⟨w.heap.size,0,none⟩ = some (.int .i64 s) /\ w2.cell? ⟨w.heap.size,1,none⟩ = some (.int .i64 e))) from fun n w1 hr=>by
  refine (int_any n w1).mono ?_
  rintro en w2 ⟨rfl,hb⟩
  exact ⟨rfl,hr.on hb,(hr.on hb).cells⟩)
 obtain ⟨c0,c1⟩:=h0.cells
 have c2 : W.cell? ⟨w.heap.size,2,none⟩ = some (.bool b):=h0.x.cell rfl
 have H0:=Lib.hid h0
 have H1:=Lib.hid h1
 clear h0 h1
 have hWl:=Lib.hid hW
 clear hW
 have HL:=Lib.hid (fun (m : Int) (w1 : World) (h : RB w s e b w1)=>list_row c m h)
 rcases b with _ | _
 ·go_enter Tryz.func159,Tryz.ntmps159
  go_wp2_with fail
  rw [hWl.out]
  go_wp2_with fail
  go_region_held3 (fun w'=>w'.cell? ⟨w.heap.size,0,none⟩ = some (.int .i64 s) /\ w'.cell? ⟨w.heap.size,1,none⟩ = some (.int .i64 e))
   (first | exact ⟨c0,c1⟩ | exact HS4.out | go_keep)
   (first
    | (go_at_call 130;with_reducible refine (HI.out _ _ H1.out).mono ?_;intro en w4 hpost;obtain ⟨rfl,ha4,hs4⟩:=hpost;have HS4:=Lib.hid hs4;have HA4:=Lib.hid ha4;clear ha4 hs4)
    | (go_at_call 130;with_reducible refine (HI.out _ _ HA4.out).mono ?_;clear HS4;intro en w4 hpost;obtain ⟨rfl,ha4,hs4⟩:=hpost;have HS4:=Lib.hid hs4;have HA4:=Lib.hid ha4;clear ha4 hs4)
    | (go_at_call 135;refine (HL.out 0 _ HA4.out).mono ?_;clear HS4;intro en w5 hpost;obtain ⟨A',k',rfl,hRA,hR5⟩:=hpost;obtain ⟨k0,k1,k2,k3,k4,k5⟩:=hR5.res;have HS4:=Lib.hid hR5.cells))
  go_wp2_with fail
  refine bodyPost_ret (v:=.agg #[.int .i64 3,.int .i64 0,.string ⟨#[]⟩,.slice A' 4 k']) (by simp [results,Tryz.results159,go_sem,k0,k1,k2,k3,k5]) rfl ⟨_,_,rfl,?_,?_⟩
  ·exact (hRA.keep ((((Keeps.setCell (Keeps.refl _ _) ⟨w.heap.size + 1,0,none⟩ (by simp) _).setCell ⟨w.heap.size + 1,1,none⟩ (by simp) _).setCell ⟨w.heap.size + 1,2,none⟩ (by simp) _).setCell ⟨w.heap.size + 1,3,none⟩ (by simp) _)).mono (fun b hb _=>by omega)
  ·exact (((hR5.below.setCell (by simp) _).setCell (by simp) _).setCell (by simp) _).setCell (by simp) _
 ·go_enter Tryz.func159,Tryz.ntmps159
  go_wp2_with fail
  rw [hWl.out]
  go_wp2_with fail
  go_region_held3 (fun w'=>w'.cell? ⟨w.heap.size,0,none⟩ = some (.int .i64 s) /\ w'.cell? ⟨w.heap.size,1,none⟩ = some (.int .i64 e))
   (first | exact ⟨c0,c1⟩ | exact HS4.out | go_keep)
   (first
    | (go_at_call 130;with_reducible refine (HI.out _ _ H1.out).mono ?_;intro en w4 hpost;obtain ⟨rfl,ha4,hs4⟩:=hpost;have HS4:=Lib.hid hs4;have HA4:=Lib.hid ha4;clear ha4 hs4)
    | (go_at_call 130;with_reducible refine (HI.out _ _ HA4.out).mono ?_;clear HS4;intro en w4 hpost;obtain ⟨rfl,ha4,hs4⟩:=hpost;have HS4:=Lib.hid hs4;have HA4:=Lib.hid ha4;clear ha4 hs4)
    | (go_at_call 135;refine (HL.out 1 _ HA4.out).mono ?_;clear HS4;intro en w5 hpost;obtain ⟨A',k',rfl,hRA,hR5⟩:=hpost;obtain ⟨k0,k1,k2,k3,k4,k5⟩:=hR5.res;have HS4:=Lib.hid hR5.cells))
  go_wp2_with fail
  refine bodyPost_ret (v:=.agg #[.int .i64 3,.int .i64 0,.string ⟨#[]⟩,.slice A' 4 k']) (by simp [results,Tryz.results159,go_sem,k0,k1,k2,k3,k5]) rfl ⟨_,_,rfl,?_,?_⟩
  ·exact (hRA.keep ((((Keeps.setCell (Keeps.refl _ _) ⟨w.heap.size + 1,0,none⟩ (by simp) _).setCell ⟨w.heap.size + 1,1,none⟩ (by simp) _).setCell ⟨w.heap.size + 1,2,none⟩ (by simp) _).setCell ⟨w.heap.size + 1,3,none⟩ (by simp) _)).mono (fun b hb _=>by omega)
  ·exact (((hR5.below.setCell (by simp) _).setCell (by simp) _).setCell (by simp) _).setCell (by simp) _
end
end Be
end Go.Proofs.YtegjjhjgfkcbhaaGreatDoor
