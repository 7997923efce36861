/- A map of numbers in memory, and a ring's own block. Conditions: none. -/
import Derived.Test.YtmepahlmbopacaaDoorVKit
import Derived.Test.YtmepahlmbopacaaDoorGMath
import Derived.Maps.OwnSet
import Derived.LaidEqlPtr
import Derived.DataShut
set_option maxRecDepth 100000
set_option linter.unusedVariables false
set_option linter.unusedSimpArgs false
namespace Go.Proofs.YtmepahlmbopacaaDoor
open Go Go.RowKit Go.Maps
abbrev Dat := DataW Value
/-- An element reads as itself. -/
def hR (v : Value) : Option (Dat × List MemPlace) := some (.held v, [])
def kl (x : Int) : Lit := .int .i64 x
theorem kl_ne {x y : Int} (h : x ≠ y) : kl x ≠ kl y := fun e => h (by injection e)
theorem kl_key (x : Int) : WideAt.IsKeyLit (kl x) := by unfold kl WideAt.IsKeyLit; trivial
theorem law3 : Keyed Tryd.prog 3 := int_keyed Tryd.underlying3
theorem key_of {x : Int} (h : (Lit.int .i64 x).wf = true) : keyOf Tryd.prog 3 (.int .i64 x) = some (kl x) := keyOf_int_mk Tryd.underlying3 h
theorem zeroI (w : World) : (zeroValue 3).run Tryd.prog w = .ok (.int .i64 0) w := by kernel_rfl
theorem hR_inj {v : Value} {d : Dat} {ps : List MemPlace} (h : hR v = some (d, ps)) : d = .held v := by
  unfold hR at h
  injection h with h
  injection h with h1 _
  exact h1.symm
theorem wf_in {q : Int} (h : InR q) : (Lit.int .i64 q).wf = true := by
  rw [Lit.wf_int_iff]
  have h1 : IntKind.i64.min = -9223372036854775808 := by decide
  have h2 : IntKind.i64.max = 9223372036854775807 := by decide
  unfold InR at h
  omega
/-- A map that has at x what f says; n: no more entries than that. -/
def MapF (w : World) (b n : Nat) (f : Int → Option Int) : Prop :=
  ∃ D : Dat, w.ownsMap Tryd.prog 3 hR b n D ∧ (∀ x, Maps.has D (kl x) = (f x).isSome) ∧ ∀ x m, f x = some m → ∀ z, D.atKey (kl x) z = .held (.int .i64 m)
section
variable {w w' : World} {b n : Nat} {f : Int → Option Int}
theorem MapF.keep (h : MapF w b n f) (hk : w'.heap[b]? = w.heap[b]?) : MapF w' b n f := by
  obtain ⟨D, ⟨es, clock, hb, r⟩, hD⟩ := h
  exact ⟨D, ⟨es, clock, hk.trans hb, r⟩, hD⟩
theorem MapF.lt (h : MapF w b n f) : b < w.heap.size := by
  obtain ⟨D, h, _⟩ := h
  exact h.lt
theorem MapF.made (w : World) : MapF (w.alloc (.map #[] 0)) w.heap.size 0 (fun _ => none) :=
  ⟨.map [], World.ownsMap_made w _ _ _, fun x => by simp [Maps.has], fun x m h => by cases h⟩
theorem MapF.look2 (h : MapF w b n f) {x : Int} (hx : (Lit.int .i64 x).wf = true) :
    ∃ v, (Instr.lookup 67 (.map (some b)) (.int .i64 x) true).run Tryd.prog w = .ok (.tuple #[v, .bool (f x).isSome]) w ∧ ∀ m, f x = some m → v = .int .i64 m := by
  obtain ⟨D, ho, h1, h2⟩ := h
  obtain ⟨v, ps, hrun, hv⟩ := ho.look_ok law3 Tryd.underlying67 (zeroI w) (zd := .held (.int .i64 0)) (zp := []) rfl (key_of hx)
  rw [h1] at hrun
  refine ⟨v, hrun, fun m hm => ?_⟩
  exact (DataW.held.inj ((h2 x m hm _).symm.trans (hR_inj hv))).symm
theorem MapF.look1 (h : MapF w b n f) {x m : Int} (hx : (Lit.int .i64 x).wf = true) (hm : f x = some m) :
    (Instr.lookup 67 (.map (some b)) (.int .i64 x) false).run Tryd.prog w = .ok (.int .i64 m) w := by
  obtain ⟨D, ho, h1, h2⟩ := h
  obtain ⟨v, ps, hrun, hv⟩ := ho.lookup law3 Tryd.underlying67 (zeroI w) (zd := .held (.int .i64 0)) (zp := []) rfl (key_of hx)
  have e := DataW.held.inj ((h2 x m hm _).symm.trans (hR_inj hv))
  rw [e]
  exact hrun
theorem MapF.ins (h : MapF w b n f) {x m : Int} (hx : (Lit.int .i64 x).wf = true) (hn : n ≤ 100000) :
    ∃ w', (Instr.mapUpdate 67 (.map (some b)) (.int .i64 x) (.int .i64 m)).run Tryd.prog w = .ok () w' ∧ MapF w' b (n + 1) (upd f x m) ∧ w.grownBy w' (some b) := by
  obtain ⟨D, ho, h1, h2⟩ := h
  have hT := ho.tidy law3
  obtain ⟨w', hrun, g1, g2⟩ := ho.store law3 Tryd.underlying67 (by unfold maxLen; omega) (key_of hx) (val := .int .i64 m) (d := .held (.int .i64 m)) (ps := []) rfl
  refine ⟨w', hrun, ⟨_, g1, fun y => ?_, fun y k hy z => ?_⟩, g2.grown⟩
  · unfold upd
    by_cases hyx : y = x
    · subst hyx
      rw [Maps.has_put_same hT.isMap (kl_key _), if_pos rfl]
      rfl
    · rw [Maps.has_put_other (kl_ne hyx), h1, if_neg hyx]
  · unfold upd at hy
    by_cases hyx : y = x
    · subst hyx
      rw [if_pos rfl] at hy
      injection hy with hy
      subst hy
      rw [Maps.atKey_put_same hT.isMap (kl_key _)]
    · rw [if_neg hyx] at hy
      rw [Maps.atKey_put_other (kl_ne hyx), h2 y k hy]
end
/-- A ring that is being laid, in memory: its block p, its map bm, its lists in blocks from base on. -/
structure Lay (w : World) (base p bm : Nat) (nv : Value) (ns : List Int) (pv : Value) (PL : List Int) (f : Int → Option Int) (Z : List (Int × Int)) : Prop where
  row : Row w p 69 [.pointer (some ⟨p, 0, none⟩), nv, pv, .map (some bm)]
  fam : Fam w base 3 1 [(nv, ns.length, ints ns), (pv, PL.length, ints PL)]
  map : MapF w bm Z.length f
  rs : RS Z PL f
  lp : p < base
  lb : bm < base
  ne : bm ≠ p
  sz : base ≤ w.heap.size
section
variable {w w' : World} {base p bm : Nat} {nv pv : Value} {ns PL : List Int} {f : Int → Option Int} {Z : List (Int × Int)}
theorem Lay.on (h : Lay w base p bm nv ns pv PL f Z) (hb : Below w.heap.size w w') : Lay w' base p bm nv ns pv PL f Z :=
  { h with
    row := h.row.keep (hb.block p (by have := h.sz; have := h.lp; omega))
    fam := h.fam.below hb
    map := h.map.keep (hb.block bm (by have := h.sz; have := h.lb; omega))
    sz := Nat.le_trans h.sz hb.size }
theorem Lay.c0 (h : Lay w base p bm nv ns pv PL f Z) : w.cell? ⟨p, 0, none⟩ = some (.pointer (some ⟨p, 0, none⟩)) := h.row.cell rfl
theorem Lay.c1 (h : Lay w base p bm nv ns pv PL f Z) : w.cell? ⟨p, 1, none⟩ = some nv := h.row.cell rfl
theorem Lay.c2 (h : Lay w base p bm nv ns pv PL f Z) : w.cell? ⟨p, 2, none⟩ = some pv := h.row.cell rfl
theorem Lay.c3 (h : Lay w base p bm nv ns pv PL f Z) : w.cell? ⟨p, 3, none⟩ = some (.map (some bm)) := h.row.cell rfl
/-- The map has turned. -/
theorem Lay.remap (h : Lay w base p bm nv ns pv PL f Z) {f' : Int → Option Int} {Z' : List (Int × Int)} (m : MapF w' bm Z'.length f') (hg : w.grownBy w' (some bm)) (r : RS Z' PL f') : Lay w' base p bm nv ns pv PL f' Z' :=
  { h with
    row := h.row.keep (hg.block p (by have := h.sz; have := h.lp; omega) (by have := h.ne; simp; omega))
    fam := ⟨fun q hq => (h.fam.1 q hq).kept hg (by
      rcases hv : q.1.ownBlock with _ | g
      · exact .inl rfl
      · have := ((h.fam.1 q hq).lt g hv).1
        have := h.lb
        exact .inr (by simp; omega)), h.fam.2⟩
    map := m
    rs := r
    sz := Nat.le_trans h.sz hg.size }
/-- The map's block alone has turned: all but what the map holds. -/
theorem Lay.fam_grown (h : Lay w base p bm nv ns pv PL f Z) (hg : w.grownBy w' (some bm)) : Fam w' base 3 1 [(nv, ns.length, ints ns), (pv, PL.length, ints PL)] :=
  ⟨fun q hq => (h.fam.1 q hq).kept hg (by
      rcases hv : q.1.ownBlock with _ | g
      · exact .inl rfl
      · have := ((h.fam.1 q hq).lt g hv).1
        have := h.lb
        exact .inr (by simp; omega)), h.fam.2⟩
/-- The places have grown. -/
theorem Lay.more {w : World} (hr : Row w p 69 [.pointer (some ⟨p, 0, none⟩), nv, pv, .map (some bm)]) (hp : p < base) (hbm : bm < base) (hne : bm ≠ p) (hsz : base ≤ w.heap.size) {pv' : Value} {PL' : List Int} (hF : Fam w' base 3 1 [(nv, ns.length, ints ns), (pv', PL'.length, ints PL')]) (hb : Below base w w') (hs : w.heap.size ≤ w'.heap.size) {f' : Int → Option Int} {Z' : List (Int × Int)} (m : MapF w bm Z'.length f') (r : RS Z' PL' f') :
    Lay (w'.setCell ⟨p, 2, none⟩ pv') base p bm nv ns pv' PL' f' Z' :=
  { row := (hr.keep (hb.block p hp)).set 2 pv'
    fam := ⟨fun q hq => own_keep (hF.1 q hq) (fun g hg => heap_set_ne w' _ _ (by have := ((hF.1 q hq).lt g hg).1; show g ≠ p; omega)), hF.2⟩
    map := (m.keep (hb.block bm hbm)).keep (heap_set_ne w' _ _ hne)
    rs := r
    lp := hp
    lb := hbm
    ne := hne
    sz := by simp; omega }
/-- The nodes have grown. -/
theorem Lay.node (h : Lay w base p bm nv ns pv PL f Z) {nv' : Value} {ns' : List Int} (hF : Fam w' base 3 1 [(nv', ns'.length, ints ns'), (pv, PL.length, ints PL)]) (hb : Below base w w') (hs : w.heap.size ≤ w'.heap.size) :
    Lay (w'.setCell ⟨p, 1, none⟩ nv') base p bm nv' ns' pv PL f Z :=
  have hp := h.lp
  have hbm := h.lb
  { row := (h.row.keep (hb.block p hp)).set 1 nv'
    fam := ⟨fun q hq => own_keep (hF.1 q hq) (fun g hg => heap_set_ne w' _ _ (by have := ((hF.1 q hq).lt g hg).1; show g ≠ p; omega)), hF.2⟩
    map := (h.map.keep (hb.block bm hbm)).keep (heap_set_ne w' _ _ h.ne)
    rs := h.rs
    lp := hp
    lb := hbm
    ne := h.ne
    sz := by have := h.sz; simp; omega }
/-- What stands below is as it was. -/
theorem below_of_grown {B b : Nat} (hg : w.grownBy w' (some b)) (hb : B ≤ b) (hB : B ≤ w.heap.size) : Below B w w' := ⟨hg.os, hg.tape, hg.output, by have := hg.size; omega, fun i hi => hg.block i (by omega) (by simp; omega)⟩
end
end Go.Proofs.YtmepahlmbopacaaDoor
