/- Words for memory: maps of slices, nodes, and a tree of package vptree. Conditions: none. -/
import Derived.Test.YtkgapieikgniiaaVSrt
import Derived.Test.YtkgapieikgniiaaVDist
import Derived.Maps.OwnSet
import Derived.Maps.RangeWalk
import Derived.LaidEqlPtr
set_option linter.unusedVariables false
set_option linter.unusedSimpArgs false
namespace Go.Proofs.Ytkgapieikgniiaa
open Go Go.RowKit Go.Maps
abbrev Dat := DataW Value
/-- An element reads as itself. -/
def hR (v : Value) : Option (Dat × List MemPlace) := some (.held v, [])
def kl (x : Int) : Lit := .int .i64 x
theorem kl_ne {x y : Int} (h : x ≠ y) : kl x ≠ kl y := fun e => h (by injection e)
theorem kl_key (x : Int) : WideAt.IsKeyLit (kl x) := by unfold kl WideAt.IsKeyLit; trivial
theorem kl_same (x y : Int) : (kl x).sameKey (kl y) = decide (x = y) := by
  rw [Bool.eq_iff_iff, WideAt.sameKey_iff (kl_key y), decide_eq_true_iff]
  exact ⟨fun h => by injection h, fun h => by rw [h]⟩
/-- A number, the slice that holds its vector, the vector. -/
abbrev Ent := Int × Value × List Int
def noId (x : Int) (E : List Ent) : List Ent := E.filter fun p => decide (p.1 ≠ x)
def isId (x : Int) (E : List Ent) : Bool := E.any fun p => decide (p.1 = x)
theorem isId_iff (x : Int) (E : List Ent) : isId x E = true ↔ ∃ p ∈ E, p.1 = x := by simp [isId]
theorem isId_no {x : Int} {E : List Ent} (h : isId x E = false) : ∀ p ∈ E, p.1 ≠ x := by
  intro p hp e
  have := (isId_iff x E).2 ⟨p, hp, e⟩
  rw [h] at this
  cases this
theorem noId_self {x : Int} {E : List Ent} (h : isId x E = false) : noId x E = E := by
  unfold noId
  rw [List.filter_eq_self]
  intro p hp
  simpa using isId_no h p hp
theorem noId_mem {x : Int} {E : List Ent} {p : Ent} : p ∈ noId x E ↔ p ∈ E ∧ p.1 ≠ x := by simp [noId]
def Apart (E : List Ent) : Prop := E.Pairwise fun p q => p.1 ≠ q.1
theorem Apart.noId {E : List Ent} (h : Apart E) (x : Int) : Apart (noId x E) := h.filter _
theorem noId_len : ∀ {E : List Ent} {x : Int}, Apart E → (noId x E).length + (if isId x E = true then 1 else 0) = E.length
  | [], x, _ => rfl
  | p :: r, x, h => by
    obtain ⟨h1, h2⟩ := List.pairwise_cons.1 h
    have ih := noId_len (x := x) h2
    by_cases hp : p.1 = x
    · have hr : isId x r = false := by
        rw [Bool.eq_false_iff, Ne, isId_iff]
        rintro ⟨q, hq, e⟩
        exact h1 q hq (hp.trans e.symm)
      have e1 : noId x (p :: r) = noId x r := by simp [noId, hp]
      have e2 : isId x (p :: r) = true := by simp [isId, hp]
      rw [e1, e2, noId_self hr]
      rfl
    · have e1 : noId x (p :: r) = p :: noId x r := by simp [noId, hp]
      have e2 : isId x (p :: r) = isId x r := by simp [isId, hp]
      rw [e1, e2]
      simp only [List.length_cons]
      omega
theorem noId_perm {x : Int} : ∀ {E : List Ent}, Apart E → isId x E = true → ∃ p, p ∈ E ∧ p.1 = x ∧ E.Perm (p :: noId x E)
  | [], _, h => by simp [isId] at h
  | p :: r, h, hi => by
    obtain ⟨h1, h2⟩ := List.pairwise_cons.1 h
    by_cases hp : p.1 = x
    · have hr : isId x r = false := by
        rw [Bool.eq_false_iff, Ne, isId_iff]
        rintro ⟨q, hq, e⟩
        exact h1 q hq (hp.trans e.symm)
      have e1 : noId x (p :: r) = noId x r := by simp [noId, hp]
      exact ⟨p, List.mem_cons_self .., hp, by rw [e1, noId_self hr]⟩
    · have e1 : noId x (p :: r) = p :: noId x r := by simp [noId, hp]
      have e2 : isId x (p :: r) = isId x r := by simp [isId, hp]
      obtain ⟨q, hq, hx, hperm⟩ := noId_perm h2 (by rwa [e2] at hi)
      exact ⟨q, List.mem_cons_of_mem _ hq, hx, by rw [e1]; exact (hperm.cons p).trans (List.Perm.swap ..)⟩
/-- A map as read holds just these. -/
structure MapIs (D : Dat) (E : List Ent) : Prop where
  tidy : Maps.Tidy D
  size : Maps.size D = E.length
  has : ∀ x, Maps.has D (kl x) = isId x E
  at_ : ∀ p ∈ E, ∀ z, D.atKey (kl p.1) z = .held p.2.1
  apart : Apart E
theorem MapIs.nil : MapIs (.map []) [] := ⟨Maps.tidy_empty, rfl, fun x => by simp [Maps.has, isId], fun p hp => by simp at hp, List.Pairwise.nil⟩
theorem MapIs.del {D : Dat} {E : List Ent} (h : MapIs D E) (x : Int) : MapIs (D.del (kl x)) (noId x E) := by
  refine ⟨h.tidy.del _, ?_, fun y => ?_, fun p hp z => ?_, h.apart.noId x⟩
  · have h1 := Maps.size_del (k := kl x) h.tidy
    have h2 := noId_len (x := x) h.apart
    rw [h.has, h.size] at h1
    omega
  · by_cases hy : y = x
    · subst hy
      rw [Maps.has_del_same, eq_comm, Bool.eq_false_iff, Ne, isId_iff]
      rintro ⟨p, hp, e⟩
      exact (noId_mem.1 hp).2 e
    · rw [Maps.has_del_other (kl_ne hy), h.has, Bool.eq_iff_iff, isId_iff, isId_iff]
      constructor
      · rintro ⟨p, hp, e⟩
        exact ⟨p, noId_mem.2 ⟨hp, by rw [e]; exact hy⟩, e⟩
      · rintro ⟨p, hp, e⟩
        exact ⟨p, (noId_mem.1 hp).1, e⟩
  · obtain ⟨h1, h2⟩ := noId_mem.1 hp
    rw [Maps.atKey_del_other (kl_ne h2), h.at_ p h1]
theorem MapIs.put {D : Dat} {E : List Ent} (h : MapIs D E) (x : Int) (v : Value) (l : List Int) (hx : isId x E = false) : MapIs (D.put (kl x) (.held v)) ((x, v, l) :: E) := by
  refine ⟨h.tidy.put (kl_key _) _, ?_, fun y => ?_, fun p hp z => ?_, List.pairwise_cons.2 ⟨fun q hq => ?_, h.apart⟩⟩
  · rw [Maps.size_put h.tidy, h.has, hx, h.size]
    rfl
  · by_cases hy : y = x
    · subst hy
      rw [Maps.has_put_same h.tidy.isMap (kl_key _), eq_comm, isId_iff]
      exact ⟨_, List.mem_cons_self .., rfl⟩
    · rw [Maps.has_put_other (kl_ne hy), h.has]
      have : ¬ x = y := fun e => hy e.symm
      simp [isId, this]
  · rcases List.mem_cons.1 hp with rfl | hp
    · rw [Maps.atKey_put_same h.tidy.isMap (kl_key _)]
    · rw [Maps.atKey_put_other (kl_ne (isId_no hx p hp)), h.at_ p hp]
  · exact fun e => isId_no hx q hq e.symm
/-- A slice that holds a vector, in a block that is allowed. -/
def VecIn (w : World) (G : Nat → Prop) (v : Value) (l : List Int) : Prop :=
  ∃ ad c, v = .slice (some ad) l.length c ∧ G ad.block ∧ ad.block < w.heap.size ∧ ∀ j u, (ints l)[j]? = some u → w.cell? (ad.add j) = some u
section
variable {w w' : World} {G G' : Nat → Prop} {v : Value} {l : List Int}
theorem VecIn.keep (h : VecIn w G v l) (hk : ∀ b, G b → b < w.heap.size → w'.heap[b]? = w.heap[b]?) (hs : w.heap.size ≤ w'.heap.size) : VecIn w' G v l := by
  obtain ⟨ad, c, e, hg, hl, hc⟩ := h
  exact ⟨ad, c, e, hg, by omega, fun j u hj => (World.cell?_of_block (hk _ (by rw [block_of_add]; exact hg) (by rw [block_of_add]; exact hl))).trans (hc j u hj)⟩
theorem VecIn.more (h : VecIn w G v l) (hG : ∀ b, G b → b < w.heap.size → G' b) : VecIn w G' v l := by
  obtain ⟨ad, c, e, hg, hl, hc⟩ := h
  exact ⟨ad, c, e, hG _ hg hl, hl, hc⟩
theorem VecIn.reads (h : VecIn w G v l) : ∃ A c, v = .slice A l.length c ∧ Reads w w.heap.size 1 A l.length (ints l) := by
  obtain ⟨ad, c, e, hg, hl, hc⟩ := h
  exact ⟨some ad, c, e, by rw [ints_len]; omega, fun _ => ⟨ad, rfl, hl, hc⟩⟩
end
/-- The nodes: a point, a distance, and two trees. -/
inductive NT where
  | leaf
  | node (id : Int) (v : List Int) (rad : Int) (a b : NT)
def NT.ents : NT → List (Int × List Int)
  | .leaf => []
  | .node id v _ a b => (id, v) :: (a.ents ++ b.ents)
def NodeAt (w : World) (G : Nat → Prop) : Value → NT → Prop
  | rv, .leaf => rv = .pointer none
  | rv, .node id v rad a b => ∃ g nv lv bv, rv = .pointer (some ⟨g, 0, none⟩) ∧ G g ∧ w.heap[g]? = some (.cells #[.int .i64 id, nv, .int .i64 rad, lv, bv] 105 (0, 0)) ∧ VecIn w G nv v ∧ NodeAt w G lv a ∧ NodeAt w G bv b
/-- Within its distance, and beyond it. -/
def NT.Good (dim : Nat) : NT → Prop
  | .leaf => True
  | .node id v rad a b => (Lit.int .i64 id).wf = true ∧ okV v = true ∧ v.length = dim ∧ 0 ≤ rad ∧ rad ≤ 68719476720 ∧ (∀ e ∈ a.ents, far v e.2 ≤ rad) ∧ (∀ e ∈ b.ents, rad ≤ far v e.2) ∧ a.Good dim ∧ b.Good dim
theorem NT.Good.vec {dim : Nat} : ∀ {N : NT}, N.Good dim → ∀ e ∈ N.ents, okV e.2 = true ∧ e.2.length = dim
  | .leaf, _, e, he => by simp [NT.ents] at he
  | .node id v rad a b, h, e, he => by
    obtain ⟨_, h1, h2, _, _, _, _, h3, h4⟩ := h
    rcases List.mem_cons.1 he with rfl | he
    · exact ⟨h1, h2⟩
    · rcases List.mem_append.1 he with he | he
      · exact h3.vec e he
      · exact h4.vec e he
theorem NodeAt.keep {w w' : World} {G : Nat → Prop} (hk : ∀ b, G b → b < w.heap.size → w'.heap[b]? = w.heap[b]?) (hs : w.heap.size ≤ w'.heap.size) : ∀ {N : NT} {rv : Value}, NodeAt w G rv N → NodeAt w' G rv N
  | .leaf, _, h => h
  | .node .., _, h => by
    obtain ⟨g, nv, lv, bv, e, hg, hb, hv, h1, h2⟩ := h
    have hl : g < w.heap.size := (Array.getElem?_eq_some_iff.1 hb).1
    exact ⟨g, nv, lv, bv, e, hg, (hk g hg hl).trans hb, hv.keep hk hs, h1.keep hk hs, h2.keep hk hs⟩
theorem NodeAt.more {w : World} {G G' : Nat → Prop} (hG : ∀ b, G b → b < w.heap.size → G' b) : ∀ {N : NT} {rv : Value}, NodeAt w G rv N → NodeAt w G' rv N
  | .leaf, _, h => h
  | .node .., _, h => by
    obtain ⟨g, nv, lv, bv, e, hg, hb, hv, h1, h2⟩ := h
    exact ⟨g, nv, lv, bv, e, hG g hg (Array.getElem?_eq_some_iff.1 hb).1, hb, hv.more hG, h1.more hG, h2.more hG⟩
/-- A map in memory. -/
def MapAt (w : World) (b : Nat) (E : List Ent) : Prop := ∃ D, w.ownsMap Try.prog 3 hR b E.length D ∧ MapIs D E
theorem MapAt.keep {w w' : World} {b : Nat} {E : List Ent} (h : MapAt w b E) (hk : w'.heap[b]? = w.heap[b]?) : MapAt w' b E := by
  obtain ⟨D, ⟨es, clock, hb, r⟩, hD⟩ := h
  exact ⟨D, ⟨es, clock, hk.trans hb, r⟩, hD⟩
theorem MapAt.lt {w : World} {b : Nat} {E : List Ent} (h : MapAt w b E) : b < w.heap.size := by
  obtain ⟨D, h, _⟩ := h
  exact h.lt
theorem own_tight {w : World} {b n : Nat} {D : Dat} (h : w.ownsMap Try.prog 3 hR b n D) : w.ownsMap Try.prog 3 hR b (Maps.size D) D := by
  obtain ⟨es, clock, hb, F, hs, rfl⟩ := h
  exact ⟨es, clock, hb, F, by simp [Maps.size, length_sorted], rfl⟩
theorem MapAt.of {w : World} {b n : Nat} {D : Dat} {E : List Ent} (h : w.ownsMap Try.prog 3 hR b n D) (hD : MapIs D E) : MapAt w b E := ⟨D, by rw [← hD.size]; exact own_tight h, hD⟩
/-- What a tree's blocks are, but for the three that turn. -/
def Core (F : Nat → Prop) (t bm fm : Nat) (b : Nat) : Prop := F b ∧ b ≠ t ∧ b ≠ bm ∧ b ≠ fm
def OkE (dim : Nat) (p : Ent) : Prop := (Lit.int .i64 p.1).wf = true ∧ okV p.2.2 = true ∧ p.2.2.length = dim
def bare (p : Ent) : Int × List Int := (p.1, p.2.2)
/-- A tree in memory: B: the points that its nodes hold and that were not dropped since; U: those that came since. -/
structure TreeW (w : World) (F : Nat → Prop) (t bm fm dim : Nat) (rv : Value) (N : NT) (B U : List Ent) : Prop where
  box : w.heap[t]? = some (.cells #[.pointer (some ⟨t, 0, none⟩), .int .i64 (dim : Int), rv, .map (some bm), .map (some fm)] 66 (0, 0))
  mb : MapAt w bm B
  mf : MapAt w fm U
  dim1 : 1 ≤ dim
  dim2 : dim ≤ 16
  ok : ∀ p ∈ B ++ U, OkE dim p
  vec : ∀ p ∈ B ++ U, VecIn w (Core F t bm fm) p.2.1 p.2.2
  apart : ∀ p ∈ B, ∀ q ∈ U, p.1 ≠ q.1
  node : NodeAt w (Core F t bm fm) rv N
  good : N.Good dim
  nnd : N.ents.Pairwise fun p q => p.1 ≠ q.1
  sub : ∀ p ∈ B, bare p ∈ N.ents
  len : B.length + U.length ≤ 512
  e1 : t ≠ bm
  e2 : t ≠ fm
  e3 : bm ≠ fm
  ft : F t
  fb : F bm
  ff : F fm
  lt : ∀ b, F b → b < w.heap.size
section
variable {w w' : World} {F F' : Nat → Prop} {t bm fm dim : Nat} {rv : Value} {N : NT} {B U : List Ent}
theorem TreeW.keep (h : TreeW w F t bm fm dim rv N B U) (hk : ∀ b, F b → w'.heap[b]? = w.heap[b]?) (hs : w.heap.size ≤ w'.heap.size) : TreeW w' F t bm fm dim rv N B U :=
  { h with
    box := (hk t h.ft).trans h.box
    mb := h.mb.keep (hk bm h.fb)
    mf := h.mf.keep (hk fm h.ff)
    vec := fun p hp => (h.vec p hp).keep (fun b hb _ => hk b hb.1) hs
    node := h.node.keep (fun b hb _ => hk b hb.1) hs
    lt := fun b hb => by have := h.lt b hb; omega }
theorem TreeW.below (h : TreeW w F t bm fm dim rv N B U) (hb : Below w.heap.size w w') : TreeW w' F t bm fm dim rv N B U := h.keep (fun b hF => hb.block b (h.lt b hF)) hb.size
theorem TreeW.drewN (h : TreeW w F t bm fm dim rv N B U) (q : Nat) : TreeW (w.drewN q) F t bm fm dim rv N B U := h.keep (fun _ _ => rfl) (Nat.le_refl _)
theorem TreeW.turn {G G' : Nat → Prop} (h : TreeW w F t bm fm dim rv N B U) (T : Turn G w G' w') (hd : ∀ b, F b → ¬ G b) : TreeW w' F t bm fm dim rv N B U := h.keep (fun b hb => T.block b (h.lt b hb) (hd b hb)) T.size
theorem TreeW.tlt (h : TreeW w F t bm fm dim rv N B U) : t < w.heap.size := h.lt t h.ft
theorem TreeW.row (h : TreeW w F t bm fm dim rv N B U) : Row w t 66 [.pointer (some ⟨t, 0, none⟩), .int .i64 (dim : Int), rv, .map (some bm), .map (some fm)] := h.box
theorem TreeW.c0 (h : TreeW w F t bm fm dim rv N B U) : w.cell? ⟨t, 0, none⟩ = some (.pointer (some ⟨t, 0, none⟩)) := h.row.cell rfl
theorem TreeW.c1 (h : TreeW w F t bm fm dim rv N B U) : w.cell? ⟨t, 1, none⟩ = some (.int .i64 (dim : Int)) := h.row.cell rfl
theorem TreeW.c2 (h : TreeW w F t bm fm dim rv N B U) : w.cell? ⟨t, 2, none⟩ = some rv := h.row.cell rfl
theorem TreeW.c3 (h : TreeW w F t bm fm dim rv N B U) : w.cell? ⟨t, 3, none⟩ = some (.map (some bm)) := h.row.cell rfl
theorem TreeW.c4 (h : TreeW w F t bm fm dim rv N B U) : w.cell? ⟨t, 4, none⟩ = some (.map (some fm)) := h.row.cell rfl
theorem TreeW.z2 (h : TreeW w F t bm fm dim rv N B U) : w.frozen? ⟨t, 2, none⟩ = false := h.row.frozen 2
end
/-- The points of a tree, rising. -/
structure Tree (w : World) (F : Nat → Prop) (t dim : Nat) (T : List (Int × List Int)) : Prop where
  mem : ∃ bm fm rv N B U, TreeW w F t bm fm dim rv N B U ∧ T.Perm ((B ++ U).map bare)
  rise : T.Pairwise fun p q => p.1 < q.1
end Go.Proofs.Ytkgapieikgniiaa
