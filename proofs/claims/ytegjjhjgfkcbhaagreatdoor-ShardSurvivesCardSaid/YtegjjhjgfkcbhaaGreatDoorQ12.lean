/- WTr WOp WPrune. Conditions: as each part says. -/
import Derived.Test.YtegjjhjgfkcbhaaGreatDoorQ11
import Derived.Maps.OwnSet
import Derived.Maps.RangeWalk
import Derived.LaidEqlPtr
set_option linter.unusedVariables false
set_option linter.unusedSimpArgs false
set_option maxRecDepth 100000
set_option maxHeartbeats 16000000
namespace Go.Proofs.YtegjjhjgfkcbhaaGreatDoor
section
open Go Go.RowKit Go.Maps
abbrev Dat:=DataW Value
def hR (v : Value) : Option (Dat × List MemPlace):=some (.held v,[])
def kl (x : Int) : Lit:=.int .i64 x
theorem kl_ne {x y : Int} (h : x ≠ y) : kl x ≠ kl y:=fun e=>h (by injection e)
theorem kl_key (x : Int) : WideAt.IsKeyLit (kl x):=by unfold kl WideAt.IsKeyLit;trivial
theorem kl_same (x y : Int) : (kl x).sameKey (kl y) = decide (x = y):=by
 rw [Bool.eq_iff_iff,WideAt.sameKey_iff (kl_key y),decide_eq_true_iff]
 exact ⟨fun h=>by injection h,fun h=>by rw [h]⟩
abbrev Ent:=Int × Value × List Int
def noId (x : Int) (E : List Ent) : List Ent:=E.filter fun p=>decide (p.1 ≠ x)
def isId (x : Int) (E : List Ent) : Bool:=E.any fun p=>decide (p.1 = x)
theorem isId_iff (x : Int) (E : List Ent) : isId x E = true ↔ ∃ p ∈ E,p.1 = x:=by simp [isId]
theorem isId_no {x : Int} {E : List Ent} (h : isId x E = false) : ∀ p ∈ E,p.1 ≠ x:=by
 intro p hp e
 have:=(isId_iff x E).2 ⟨p,hp,e⟩
 rw [h] at this
 cases this
theorem noId_self {x : Int} {E : List Ent} (h : isId x E = false) : noId x E = E:=by
 unfold noId
 rw [List.filter_eq_self]
 intro p hp
 simpa using isId_no h p hp
theorem noId_mem {x : Int} {E : List Ent} {p : Ent} : p ∈ noId x E ↔ p ∈ E /\ p.1 ≠ x:=by simp [noId]
def Apart (E : List Ent) : Prop:=E.Pairwise fun p q=>p.1 ≠ q.1
theorem Apart.noId {E : List Ent} (h : Apart E) (x : Int) : Apart (noId x E):=h.filter _
theorem noId_len : ∀ {E : List Ent} {x : Int},Apart E -> (noId x E).length + (if isId x E = true then 1 else 0) = E.length
 | [],x,_=>rfl
 | p :: r,x,h=>by
  obtain ⟨h1,h2⟩:=List.pairwise_cons.1 h
  have ih:=noId_len (x:=x) h2
  by_cases hp : p.1 = x
  ·have hr : isId x r = false:=by
    rw [Bool.eq_false_iff,Ne,isId_iff]
    rintro ⟨q,hq,e⟩
    exact h1 q hq (hp.trans e.symm)
   have e1 : noId x (p :: r) = noId x r:=by simp [noId,hp]
   have e2 : isId x (p :: r) = true:=by simp [isId,hp]
   rw [e1,e2,noId_self hr]
   rfl
  ·have e1 : noId x (p :: r) = p :: noId x r:=by simp [noId,hp]
   have e2 : isId x (p :: r) = isId x r:=by simp [isId,hp]
   rw [e1,e2]
   simp only [List.length_cons]
   omega
structure MapIs (D : Dat) (E : List Ent) : Prop where
 tidy : Maps.Tidy D
 size : Maps.size D = E.length
 has : ∀ x,Maps.has D (kl x) = isId x E
 at_ : ∀ p ∈ E,∀ z,D.atKey (kl p.1) z = .held p.2.1
 apart : Apart E
theorem MapIs.nil : MapIs (.map []) []:=⟨Maps.tidy_empty,rfl,fun x=>by simp [Maps.has,isId],fun p hp=>by simp at hp,List.Pairwise.nil⟩
theorem MapIs.del {D : Dat} {E : List Ent} (h : MapIs D E) (x : Int) : MapIs (D.del (kl x)) (noId x E):=by
 refine ⟨h.tidy.del _,?_,fun y=>?_,fun p hp z=>?_,h.apart.noId x⟩
 ·have h1:=Maps.size_del (k:=kl x) h.tidy
  have h2:=noId_len (x:=x) h.apart
  rw [h.has,h.size] at h1
  omega
 ·by_cases hy : y = x
  ·subst hy
   rw [Maps.has_del_same,eq_comm,Bool.eq_false_iff,Ne,isId_iff]
   rintro ⟨p,hp,e⟩
   exact (noId_mem.1 hp).2 e
  ·rw [Maps.has_del_other (kl_ne hy),h.has,Bool.eq_iff_iff,isId_iff,isId_iff]
   constructor
   ·rintro ⟨p,hp,e⟩
    exact ⟨p,noId_mem.2 ⟨hp,by rw [e];exact hy⟩,e⟩
   ·rintro ⟨p,hp,e⟩
    exact ⟨p,(noId_mem.1 hp).1,e⟩
 ·obtain ⟨h1,h2⟩:=noId_mem.1 hp
  rw [Maps.atKey_del_other (kl_ne h2),h.at_ p h1]
theorem MapIs.put {D : Dat} {E : List Ent} (h : MapIs D E) (x : Int) (v : Value) (l : List Int) (hx : isId x E = false) : MapIs (D.put (kl x) (.held v)) ((x,v,l) :: E):=by
 refine ⟨h.tidy.put (kl_key _) _,?_,fun y=>?_,fun p hp z=>?_,List.pairwise_cons.2 ⟨fun q hq=>?_,h.apart⟩⟩
 ·rw [Maps.size_put h.tidy,h.has,hx,h.size]
  rfl
 ·by_cases hy : y = x
  ·subst hy
   rw [Maps.has_put_same h.tidy.isMap (kl_key _),eq_comm,isId_iff]
   exact ⟨_,List.mem_cons_self ..,rfl⟩
  ·rw [Maps.has_put_other (kl_ne hy),h.has]
   have : ¬ x = y:=fun e=>hy e.symm
   simp [isId,this]
 ·rcases List.mem_cons.1 hp with rfl | hp
  ·rw [Maps.atKey_put_same h.tidy.isMap (kl_key _)]
  ·rw [Maps.atKey_put_other (kl_ne (isId_no hx p hp)),h.at_ p hp]
 ·exact fun e=>isId_no hx q hq e.symm
def VecIn (w : World) (G : Nat -> Prop) (v : Value) (l : List Int) : Prop :=
 ∃ ad c,v = .slice (some ad) l.length c /\ G ad.block /\ ad.block < w.heap.size /\ ∀ j u,(ints l)[j]? = some u -> w.cell? (ad.add j) = some u
section
variable {w w' : World} {G G' : Nat -> Prop} {v : Value} {l : List Int}
theorem VecIn.keep (h : VecIn w G v l) (hk : ∀ b,G b -> b < w.heap.size -> w'.heap[b]? = w.heap[b]?) (hs : w.heap.size <= w'.heap.size) : VecIn w' G v l:=by
 obtain ⟨ad,c,e,hg,hl,hc⟩:=h
 exact ⟨ad,c,e,hg,by omega,fun j u hj=>(World.cell?_of_block (hk _ (by rw [block_of_add];exact hg) (by rw [block_of_add];exact hl))).trans (hc j u hj)⟩
theorem VecIn.more (h : VecIn w G v l) (hG : ∀ b,G b -> b < w.heap.size -> G' b) : VecIn w G' v l:=by
 obtain ⟨ad,c,e,hg,hl,hc⟩:=h
 exact ⟨ad,c,e,hG _ hg hl,hl,hc⟩
theorem VecIn.reads (h : VecIn w G v l) : ∃ A c,v = .slice A l.length c /\ Reads w w.heap.size 1 A l.length (ints l):=by
 obtain ⟨ad,c,e,hg,hl,hc⟩:=h
 exact ⟨some ad,c,e,by rw [ints_len];omega,fun _=>⟨ad,rfl,hl,hc⟩⟩
end
inductive NT where
 | leaf
 | node (id : Int) (v : List Int) (rad : Int) (a b : NT)
def NT.ents : NT -> List (Int × List Int)
 | .leaf=>[]
 | .node id v _ a b=>(id,v) :: (a.ents ++ b.ents)
def NodeAt (w : World) (G : Nat -> Prop) : Value -> NT -> Prop
 | rv,.leaf=>rv = .pointer none
 | rv,.node id v rad a b=>∃ g nv lv bv,rv = .pointer (some ⟨g,0,none⟩) /\ G g /\ w.heap[g]? = some (.cells #[.int .i64 id,nv,.int .i64 rad,lv,bv] 228 (0,0)) /\ VecIn w G nv v /\ NodeAt w G lv a /\ NodeAt w G bv b
def NT.Good (dim : Nat) : NT -> Prop
 | .leaf=>True
 | .node id v rad a b=>(Lit.int .i64 id).wf = true /\ okV v = true /\ v.length = dim /\ 0 <= rad /\ rad <= 68719476720 /\ (∀ e ∈ a.ents,far v e.2 <= rad) /\ (∀ e ∈ b.ents,rad <= far v e.2) /\ a.Good dim /\ b.Good dim
theorem NT.Good.vec {dim : Nat} : ∀ {N : NT},N.Good dim -> ∀ e ∈ N.ents,okV e.2 = true /\ e.2.length = dim
 | .leaf,_,e,he=>by simp [NT.ents] at he
 | .node id v rad a b,h,e,he=>by
  obtain ⟨_,h1,h2,_,_,_,_,h3,h4⟩:=h
  rcases List.mem_cons.1 he with rfl | he
  ·exact ⟨h1,h2⟩
  ·rcases List.mem_append.1 he with he | he
   ·exact h3.vec e he
   ·exact h4.vec e he
theorem NodeAt.keep {w w' : World} {G : Nat -> Prop} (hk : ∀ b,G b -> b < w.heap.size -> w'.heap[b]? = w.heap[b]?) (hs : w.heap.size <= w'.heap.size) : ∀ {N : NT} {rv : Value},NodeAt w G rv N -> NodeAt w' G rv N
 | .leaf,_,h=>h
 | .node ..,_,h=>by
  obtain ⟨g,nv,lv,bv,e,hg,hb,hv,h1,h2⟩:=h
  have hl : g < w.heap.size:=(Array.getElem?_eq_some_iff.1 hb).1
  exact ⟨g,nv,lv,bv,e,hg,(hk g hg hl).trans hb,hv.keep hk hs,h1.keep hk hs,h2.keep hk hs⟩
theorem NodeAt.more {w : World} {G G' : Nat -> Prop} (hG : ∀ b,G b -> b < w.heap.size -> G' b) : ∀ {N : NT} {rv : Value},NodeAt w G rv N -> NodeAt w G' rv N
 | .leaf,_,h=>h
 | .node ..,_,h=>by
  obtain ⟨g,nv,lv,bv,e,hg,hb,hv,h1,h2⟩:=h
  exact ⟨g,nv,lv,bv,e,hG g hg (Array.getElem?_eq_some_iff.1 hb).1,hb,hv.more hG,h1.more hG,h2.more hG⟩
def MapAt (w : World) (b : Nat) (E : List Ent) : Prop:=∃ D,w.ownsMap Tryz.prog 3 hR b E.length D /\ MapIs D E
theorem MapAt.keep {w w' : World} {b : Nat} {E : List Ent} (h : MapAt w b E) (hk : w'.heap[b]? = w.heap[b]?) : MapAt w' b E:=by
 obtain ⟨D,⟨es,clock,hb,r⟩,hD⟩:=h
 exact ⟨D,⟨es,clock,hk.trans hb,r⟩,hD⟩
theorem MapAt.lt {w : World} {b : Nat} {E : List Ent} (h : MapAt w b E) : b < w.heap.size:=by
 obtain ⟨D,h,_⟩:=h
 exact h.lt
theorem own_tight {w : World} {b n : Nat} {D : Dat} (h : w.ownsMap Tryz.prog 3 hR b n D) : w.ownsMap Tryz.prog 3 hR b (Maps.size D) D:=by
 obtain ⟨es,clock,hb,F,hs,rfl⟩:=h
 exact ⟨es,clock,hb,F,by simp [Maps.size,length_sorted],rfl⟩
theorem MapAt.of {w : World} {b n : Nat} {D : Dat} {E : List Ent} (h : w.ownsMap Tryz.prog 3 hR b n D) (hD : MapIs D E) : MapAt w b E:=⟨D,by rw [<- hD.size];exact own_tight h,hD⟩
def Core (F : Nat -> Prop) (t bm fm : Nat) (b : Nat) : Prop:=F b /\ b ≠ t /\ b ≠ bm /\ b ≠ fm
def OkE (dim : Nat) (p : Ent) : Prop:=(Lit.int .i64 p.1).wf = true /\ okV p.2.2 = true /\ p.2.2.length = dim
def bare (p : Ent) : Int × List Int:=(p.1,p.2.2)
structure TreeW (w : World) (F : Nat -> Prop) (t bm fm dim : Nat) (rv : Value) (N : NT) (B U : List Ent) : Prop where
 box : w.heap[t]? = some (.cells #[.pointer (some ⟨t,0,none⟩),.int .i64 (dim : Int),rv,.map (some bm),.map (some fm)] 171 (0,0))
 mb : MapAt w bm B
 mf : MapAt w fm U
 dim1 : 1 <= dim
 dim2 : dim <= 16
 ok : ∀ p ∈ B ++ U,OkE dim p
 vec : ∀ p ∈ B ++ U,VecIn w (Core F t bm fm) p.2.1 p.2.2
 apart : ∀ p ∈ B,∀ q ∈ U,p.1 ≠ q.1
 node : NodeAt w (Core F t bm fm) rv N
 good : N.Good dim
 nnd : N.ents.Pairwise fun p q=>p.1 ≠ q.1
 sub : ∀ p ∈ B,bare p ∈ N.ents
 len : B.length + U.length <= 512
 e1 : t ≠ bm
 e2 : t ≠ fm
 e3 : bm ≠ fm
 ft : F t
 fb : F bm
 ff : F fm
 lt : ∀ b,F b -> b < w.heap.size
section
variable {w w' : World} {F F' : Nat -> Prop} {t bm fm dim : Nat} {rv : Value} {N : NT} {B U : List Ent}
theorem TreeW.keep (h : TreeW w F t bm fm dim rv N B U) (hk : ∀ b,F b -> w'.heap[b]? = w.heap[b]?) (hs : w.heap.size <= w'.heap.size) : TreeW w' F t bm fm dim rv N B U :=
 {h with
  box:=(hk t h.ft).trans h.box
  mb:=h.mb.keep (hk bm h.fb)
  mf:=h.mf.keep (hk fm h.ff)
  vec:=fun p hp=>(h.vec p hp).keep (fun b hb _=>hk b hb.1) hs
  node:=h.node.keep (fun b hb _=>hk b hb.1) hs
  lt:=fun b hb=>by have:=h.lt b hb;omega }
theorem TreeW.below (h : TreeW w F t bm fm dim rv N B U) (hb : Below w.heap.size w w') : TreeW w' F t bm fm dim rv N B U:=h.keep (fun b hF=>hb.block b (h.lt b hF)) hb.size
theorem TreeW.drewN (h : TreeW w F t bm fm dim rv N B U) (q : Nat) : TreeW (w.drewN q) F t bm fm dim rv N B U:=h.keep (fun _ _=>rfl) (Nat.le_refl _)
theorem TreeW.turn {G G' : Nat -> Prop} (h : TreeW w F t bm fm dim rv N B U) (T : Turn G w G' w') (hd : ∀ b,F b -> ¬ G b) : TreeW w' F t bm fm dim rv N B U:=h.keep (fun b hb=>T.block b (h.lt b hb) (hd b hb)) T.size
theorem TreeW.tlt (h : TreeW w F t bm fm dim rv N B U) : t < w.heap.size:=h.lt t h.ft
theorem TreeW.row (h : TreeW w F t bm fm dim rv N B U) : Row w t 171 [.pointer (some ⟨t,0,none⟩),.int .i64 (dim : Int),rv,.map (some bm),.map (some fm)]:=h.box
theorem TreeW.c0 (h : TreeW w F t bm fm dim rv N B U) : w.cell? ⟨t,0,none⟩ = some (.pointer (some ⟨t,0,none⟩)):=h.row.cell rfl
theorem TreeW.c1 (h : TreeW w F t bm fm dim rv N B U) : w.cell? ⟨t,1,none⟩ = some (.int .i64 (dim : Int)):=h.row.cell rfl
theorem TreeW.c2 (h : TreeW w F t bm fm dim rv N B U) : w.cell? ⟨t,2,none⟩ = some rv:=h.row.cell rfl
theorem TreeW.c3 (h : TreeW w F t bm fm dim rv N B U) : w.cell? ⟨t,3,none⟩ = some (.map (some bm)):=h.row.cell rfl
theorem TreeW.c4 (h : TreeW w F t bm fm dim rv N B U) : w.cell? ⟨t,4,none⟩ = some (.map (some fm)):=h.row.cell rfl
theorem TreeW.z2 (h : TreeW w F t bm fm dim rv N B U) : w.frozen? ⟨t,2,none⟩ = false:=h.row.frozen 2
end
structure Tree (w : World) (F : Nat -> Prop) (t dim : Nat) (T : List (Int × List Int)) : Prop where
 mem : ∃ bm fm rv N B U,TreeW w F t bm fm dim rv N B U /\ T.Perm ((B ++ U).map bare)
 rise : T.Pairwise fun p q=>p.1 < q.1
end
section
open Go Go.RowKit Go.Maps
theorem law3 : Keyed Tryz.prog 3:=int_keyed Tryz.underlying3
theorem zeroS (w : World) : (zeroValue 27).run Tryz.prog w = .ok (.slice none 0 0) w:=by kernel_rfl
theorem key_of {x : Int} (h : (Lit.int .i64 x).wf = true) : keyOf Tryz.prog 3 (.int .i64 x) = some (kl x):=keyOf_int_mk Tryz.underlying3 h
theorem hR_inj {v : Value} {d : Dat} {ps : List MemPlace} (h : hR v = some (d,ps)) : d = .held v:=by
 unfold hR at h
 injection h with h
 injection h with h1 _
 exact h1.symm
theorem MapAt.look {w : World} {b : Nat} {E : List Ent} (h : MapAt w b E) {x : Int} (hx : (Lit.int .i64 x).wf = true) :
  (isId x E = true -> ∃ v l,(x,v,l) ∈ E /\ (Instr.lookup 169 (.map (some b)) (.int .i64 x) true).run Tryz.prog w = .ok (.tuple #[v,.bool true]) w) /\
  (isId x E = false -> (Instr.lookup 169 (.map (some b)) (.int .i64 x) true).run Tryz.prog w = .ok (.tuple #[.slice none 0 0,.bool false]) w):=by
 obtain ⟨D,ho,hD⟩:=h
 obtain ⟨v,ps,hrun,hv⟩:=ho.look_ok law3 Tryz.underlying169 (zeroS w) (zd:=.held (.slice none 0 0)) (zp:=[]) rfl (key_of hx)
 rw [hD.has] at hrun
 have hv:=hR_inj hv
 refine ⟨fun hi=>?_,fun hi=>?_⟩
 ·obtain ⟨⟨y,u,l⟩,hp,rfl⟩:=(isId_iff _ _).1 hi
  have e:=hD.at_ _ hp (.held (.slice none 0 0))
  have hv2:=DataW.held.inj (e.symm.trans hv)
  subst hv2
  rw [hi] at hrun
  exact ⟨_,l,hp,hrun⟩
 ·have hv2:=DataW.held.inj ((Maps.atKey_of_not_has (by rw [hD.has];exact hi) _).symm.trans hv)
  subst hv2
  rw [hi] at hrun
  exact hrun
theorem MapAt.len_run {w : World} {b : Nat} {E : List Ent} (h : MapAt w b E) (ty : TypeId) : (Builtin.len_ #[169] ty #[.map (some b)]).run Tryz.prog w = .ok (.int .i64 (E.length : Int)) w:=by
 obtain ⟨D,ho,hD⟩:=h
 rw [<- hD.size]
 exact ho.len Tryz.underlying169 ty
section
variable {w w' : World} {F : Nat -> Prop} {t bm fm dim : Nat} {rv : Value} {N : NT} {B U : List Ent}
theorem teql_self (d : Nat) (w : World) : (binOp .eql 94 (.pointer (some ⟨d,0,none⟩)) (.pointer (some ⟨d,0,none⟩))).run Tryz.prog w = .ok (.bool true) w:=by
 obtain ⟨i,hi,_⟩:=Option.map_eq_some_iff.1 (show (Tryz.prog.info? 171).map (fun i=>i.size) = some 5 by kernel_rfl)
 exact run_eql_ptr_same w _ Tryz.underlying94 hi
theorem vgiven_any (h : TreeW w F t bm fm dim rv N B U) : Calls Tryz.prog 82 #[.pointer (some ⟨t,0,none⟩)] w (Says (.bool true) w):=by
 have hc:=h.c0
 have hl:=h.tlt
 have he:=teql_self t w
 clear h
 go_enter Tryz.func82,Tryz.ntmps82
 go_wp2
 go_ret
 exact ⟨rfl,0,rfl⟩
theorem vlen_any (h : TreeW w F t bm fm dim rv N B U) : Calls Tryz.prog 117 #[.pointer (some ⟨t,0,none⟩)] w (Says (.int .i64 ((B.length + U.length : Nat) : Int)) w):=by
 have hg:=vgiven_any h
 have hlen:=h.len
 go_enter Tryz.func117,Tryz.ntmps117
 go_wp2_with fail
 refine hg.mono ?_
 rintro e w1 ⟨rfl,q,rfl⟩
 have c3:=h.c3
 have c4:=h.c4
 have l1:=fun n ty=>(h.drewN n).mb.len_run ty
 have l2:=fun n ty=>(h.drewN n).mf.len_run ty
 have hl:=h.tlt
 clear h hg
 generalize B.length = b at *
 generalize U.length = u at *
 go_wp2
 go_quiet (fail)
 go_wp2
 go_ret
 exact ⟨by simp,_,World.drewN_drewN ..⟩
inductive At (B U : List Ent) (x : Int) : Value -> Bool -> Prop where
 | yes (v : Value) (l : List Int) (h : (x,v,l) ∈ B ++ U) : At B U x v true
 | no (h1 : isId x B = false) (h2 : isId x U = false) : At B U x (.slice none 0 0) false
theorem vvec_any (h : TreeW w F t bm fm dim rv N B U) {x : Int} (hx : (Lit.int .i64 x).wf = true) : Calls Tryz.prog 157 #[.pointer (some ⟨t,0,none⟩),.int .i64 x] w fun e w'=>∃ v r,At B U x v r /\ e = .returned (.tuple #[v,.bool r]) /\ ∃ q,w' = w.drewN q:=by
 have hg:=vgiven_any h
 go_enter Tryz.func157,Tryz.ntmps157
 go_wp2_with fail
 refine hg.mono ?_
 rintro e w1 ⟨rfl,q,rfl⟩
 have c3:=(h.drewN q).c3
 have c4:=(h.drewN q).c4
 have hl:=(h.drewN q).tlt
 obtain ⟨y1,n1⟩:=(h.drewN q).mb.look hx
 obtain ⟨y2,n2⟩:=(h.drewN q).mf.look hx
 cases i1 : isId x B with
 | true =>
  obtain ⟨v,l,hm,hrun⟩:=y1 i1
  have HA:=Lib.hid (At.yes (B:=B) (U:=U) (x:=x) v l (List.mem_append_left _ hm))
  clear h hg y1 n1 y2 n2 hm i1
  go_wp2
  go_ret2
  exact ⟨v,true,HA.out,rfl,_,rfl⟩
 | false =>
  have r1:=n1 i1
  cases i2 : isId x U with
  | true =>
   obtain ⟨v,l,hm,hrun⟩:=y2 i2
   have HA:=Lib.hid (At.yes (B:=B) (U:=U) (x:=x) v l (List.mem_append_right _ hm))
   clear h hg y1 n1 y2 n2 hm i1 i2
   go_wp2
   go_ret2
   exact ⟨v,true,HA.out,rfl,_,rfl⟩
  | false =>
   have r2:=n2 i2
   have HA:=Lib.hid (At.no (B:=B) (U:=U) (x:=x) i1 i2)
   clear h hg y1 n1 y2 n2 i1 i2
   go_wp2
   go_ret2
   exact ⟨_,false,HA.out,rfl,_,rfl⟩
end
end
section
open Go Go.RowKit
def selB (B : List Ent) (es : List (Int × List Int)) : List (Int × List Int):=es.filter fun e=>isId e.1 B
theorem selB_nil (B : List Ent) : selB B [] = []:=rfl
theorem selB_cons (B : List Ent) (e : Int × List Int) (es : List (Int × List Int)) : selB B (e :: es) = if isId e.1 B = true then e :: selB B es else selB B es:=by unfold selB;rw [List.filter_cons]
theorem selB_append (B : List Ent) (a b : List (Int × List Int)) : selB B (a ++ b) = selB B a ++ selB B b:=by simp [selB]
theorem nearH_lim {v : List Int} {lim : Int} {E : List (Int × List Int)} : ∀ x ∈ nearH v lim E,x.2 <= lim:=by
 intro x hx
 unfold nearH at hx
 exact of_decide_eq_true (List.mem_filter.1 hx).2
theorem nearH_mem {v : List Int} {lim : Int} {E : List (Int × List Int)} {x : Hit} (h : x ∈ nearH v lim E) : ∃ e ∈ E,x = (e.1,far e.2 v):=by
 unfold nearH at h
 obtain ⟨e,he,rfl⟩:=List.mem_map.1 (List.mem_filter.1 h).1
 exact ⟨e,he,rfl⟩
theorem prune {k : Nat} {lim : Int} {S : List Hit} (hk : 0 < k) (hS : ∀ x ∈ S,x.2 <= lim) : ∀ X : List Hit,(∀ x ∈ X,x.2 <= lim /\ reachOf k lim (bst k S) < x.2) -> bst k (X ++ S) = bst k S
 | [],_=>rfl
 | x :: r,h=>by
  obtain ⟨h1,h2⟩:=h x (List.mem_cons_self ..)
  have h3:=reach_no hk hS h2
  rw [if_pos h1] at h3
  rw [List.cons_append,bst_cons,prune hk hS r (fun y hy=>h y (List.mem_cons_of_mem _ hy)),<- bst_cons]
  exact h3
theorem far_back {a b v : List Int} (hab : a.length = b.length) (hbv : b.length = v.length) : far a v <= far a b + far b v:=far_tri a b v hab hbv
theorem prune_in {k dim : Nat} {lim rad : Int} {S : List Hit} {nv v : List Int} {B : List Ent} {es : List (Int × List Int)} (hk : 0 < k) (hS : ∀ x ∈ S,x.2 <= lim) (hn : nv.length = dim) (hv : v.length = dim) (he : ∀ e ∈ es,e.2.length = dim /\ far nv e.2 <= rad)
  (hr : reachOf k lim (bst k S) < far nv v - rad) : bst k (nearH v lim (selB B es) ++ S) = bst k S:=by
 refine prune hk hS _ (fun x hx=>⟨nearH_lim x hx,?_⟩)
 obtain ⟨e,hm,rfl⟩:=nearH_mem hx
 obtain ⟨h1,h2⟩:=he e (List.mem_filter.1 hm).1
 have:=far_back (a:=nv) (b:=e.2) (v:=v) (by omega) (by omega)
 show _ < far e.2 v
 omega
theorem prune_out {k dim : Nat} {lim rad : Int} {S : List Hit} {nv v : List Int} {B : List Ent} {es : List (Int × List Int)} (hk : 0 < k) (hS : ∀ x ∈ S,x.2 <= lim) (hn : nv.length = dim) (hv : v.length = dim) (he : ∀ e ∈ es,e.2.length = dim /\ rad <= far nv e.2)
  (hr : reachOf k lim (bst k S) < rad - far nv v) : bst k (nearH v lim (selB B es) ++ S) = bst k S:=by
 refine prune hk hS _ (fun x hx=>⟨nearH_lim x hx,?_⟩)
 obtain ⟨e,hm,rfl⟩:=nearH_mem hx
 obtain ⟨h1,h2⟩:=he e (List.mem_filter.1 hm).1
 have h3:=far_back (a:=nv) (b:=v) (v:=e.2) (by omega) (by omega)
 have h4:=far_comm v e.2
 show _ < far e.2 v
 omega
theorem one_more {k : Nat} {lim : Int} {S : List Hit} (hk : 0 < k) (hS : ∀ x ∈ S,x.2 <= lim) (h : Hit) :
  (if reachOf k lim (bst k S) < h.2 then bst k S else (insH h (bst k S)).take k) = bst k ((if h.2 <= lim then [h] else []) ++ S):=by
 by_cases hr : reachOf k lim (bst k S) < h.2
 ·have:=reach_no hk hS hr
  rw [if_pos hr,<- this]
  by_cases hl : h.2 <= lim <;> simp [hl]
 ·have:=reach_yes hk hS hr
  rw [if_neg hr,if_pos this,<- bst_cons]
  rfl
end
end Go.Proofs.YtegjjhjgfkcbhaaGreatDoor
