/- Maps in memory, keyed by numbers, told by lists of entries. Conditions: none. -/
import Derived.Test.YtfojempmgonahaaVKit
import Derived.Maps.OwnSet
import Derived.Maps.RangeWalk
import Derived.LaidEqlPtr
set_option linter.unusedVariables false
set_option linter.unusedSimpArgs false
set_option maxRecDepth 100000
namespace Go.Proofs.Ytfojempmgonahaa.Wh
open Go Go.RowKit Go.Maps
abbrev Dat := DataW Value
/-- An element reads as itself. -/
def hR (v : Value) : Option (Dat × List MemPlace) := some (.held v, [])
def kl (x : Int) : Lit := .int .i64 x
theorem kl_ne {x y : Int} (h : x ≠ y) : kl x ≠ kl y := fun e => h (by injection e)
theorem kl_key (x : Int) : WideAt.IsKeyLit (kl x) := by unfold kl WideAt.IsKeyLit; trivial
theorem law3 : Keyed Try.prog 3 := int_keyed Try.underlying3
theorem key_of {x : Int} (h : (Lit.int .i64 x).wf = true) : keyOf Try.prog 3 (.int .i64 x) = some (kl x) := keyOf_int_mk Try.underlying3 h
theorem hR_inj {v : Value} {d : Dat} {ps : List MemPlace} (h : hR v = some (d, ps)) : d = .held v := by
  unfold hR at h
  injection h with h
  injection h with h1 _
  exact h1.symm
abbrev Ent := Int × Value
def noId (x : Int) (E : List Ent) : List Ent := E.filter fun p => decide (p.1 ≠ x)
def isId (x : Int) (E : List Ent) : Bool := E.any fun p => decide (p.1 = x)
def valOf (x : Int) (z : Value) (E : List Ent) : Value := ((E.find? fun p => decide (p.1 = x)).map Prod.snd).getD z
theorem isId_iff (x : Int) (E : List Ent) : isId x E = true ↔ ∃ p ∈ E, p.1 = x := by simp [isId]
theorem isId_no {x : Int} {E : List Ent} (h : isId x E = false) : ∀ p ∈ E, p.1 ≠ x := by
  intro p hp e
  have := (isId_iff x E).2 ⟨p, hp, e⟩
  rw [h] at this
  cases this
theorem noId_self {x : Int} {E : List Ent} (h : isId x E = false) : noId x E = E := by
  unfold noId
  rw [List.filter_eq_self]
  intro p hp
  simpa using isId_no h p hp
theorem noId_mem {x : Int} {E : List Ent} {p : Ent} : p ∈ noId x E ↔ p ∈ E ∧ p.1 ≠ x := by simp [noId]
def Apart (E : List Ent) : Prop := E.Pairwise fun p q => p.1 ≠ q.1
theorem Apart.noId {E : List Ent} (h : Apart E) (x : Int) : Apart (noId x E) := h.filter _
theorem noId_len : ∀ {E : List Ent} {x : Int}, Apart E → (noId x E).length + (if isId x E = true then 1 else 0) = E.length
  | [], x, _ => rfl
  | p :: r, x, h => by
    obtain ⟨h1, h2⟩ := List.pairwise_cons.1 h
    have ih := noId_len (x := x) h2
    by_cases hp : p.1 = x
    · have hr : isId x r = false := by
        rw [Bool.eq_false_iff, Ne, isId_iff]
        rintro ⟨q, hq, e⟩
        exact h1 q hq (hp.trans e.symm)
      have e1 : noId x (p :: r) = noId x r := by simp [noId, hp]
      have e2 : isId x (p :: r) = true := by simp [isId, hp]
      rw [e1, e2, noId_self hr]
      rfl
    · have e1 : noId x (p :: r) = p :: noId x r := by simp [noId, hp]
      have e2 : isId x (p :: r) = isId x r := by simp [isId, hp]
      rw [e1, e2]
      simp only [List.length_cons]
      omega
theorem valOf_mem {x : Int} {z : Value} {E : List Ent} (ha : Apart E) {p : Ent} (hp : p ∈ E) (hx : p.1 = x) : valOf x z E = p.2 := by
  unfold valOf
  induction E with
  | nil => simp at hp
  | cons q r ih =>
    obtain ⟨h1, h2⟩ := List.pairwise_cons.1 ha
    rw [List.find?_cons]
    rcases List.mem_cons.1 hp with rfl | hr
    · simp [hx]
    · have : ¬ q.1 = x := fun e => h1 p hr (e.trans hx.symm)
      simp only [this, decide_false]
      exact ih h2 hr
theorem valOf_no {x : Int} {z : Value} {E : List Ent} (h : isId x E = false) : valOf x z E = z := by
  unfold valOf
  have : E.find? (fun p => decide (p.1 = x)) = none := by
    rw [List.find?_eq_none]
    intro p hp
    simpa using isId_no h p hp
  rw [this]
  rfl
/-- A map as read holds just these. -/
structure MapIs (D : Dat) (E : List Ent) : Prop where
  tidy : Maps.Tidy D
  size : Maps.size D = E.length
  has : ∀ x, Maps.has D (kl x) = isId x E
  at_ : ∀ p ∈ E, ∀ z, D.atKey (kl p.1) z = .held p.2
  apart : Apart E
theorem MapIs.nil : MapIs (.map []) [] := ⟨Maps.tidy_empty, rfl, fun x => by simp [Maps.has, isId], fun p hp => by simp at hp, List.Pairwise.nil⟩
theorem MapIs.perm {D : Dat} {E E' : List Ent} (h : MapIs D E) (hp : E.Perm E') : MapIs D E' :=
  ⟨h.tidy, h.size.trans hp.length_eq, fun x => by
    rw [h.has, Bool.eq_iff_iff, isId_iff, isId_iff]
    exact ⟨fun ⟨p, a, b⟩ => ⟨p, hp.mem_iff.1 a, b⟩, fun ⟨p, a, b⟩ => ⟨p, hp.mem_iff.2 a, b⟩⟩,
   fun p hm z => h.at_ p (hp.mem_iff.2 hm) z, hp.pairwise h.apart (fun {a b} hab => fun e => hab e.symm)⟩
theorem MapIs.del {D : Dat} {E : List Ent} (h : MapIs D E) (x : Int) : MapIs (D.del (kl x)) (noId x E) := by
  refine ⟨h.tidy.del _, ?_, fun y => ?_, fun p hp z => ?_, h.apart.noId x⟩
  · have h1 := Maps.size_del (k := kl x) h.tidy
    have h2 := noId_len (x := x) h.apart
    rw [h.has, h.size] at h1
    omega
  · by_cases hy : y = x
    · subst hy
      rw [Maps.has_del_same, eq_comm, Bool.eq_false_iff, Ne, isId_iff]
      rintro ⟨p, hp, e⟩
      exact (noId_mem.1 hp).2 e
    · rw [Maps.has_del_other (kl_ne hy), h.has, Bool.eq_iff_iff, isId_iff, isId_iff]
      constructor
      · rintro ⟨p, hp, e⟩
        exact ⟨p, noId_mem.2 ⟨hp, by rw [e]; exact hy⟩, e⟩
      · rintro ⟨p, hp, e⟩
        exact ⟨p, (noId_mem.1 hp).1, e⟩
  · obtain ⟨h1, h2⟩ := noId_mem.1 hp
    rw [Maps.atKey_del_other (kl_ne h2), h.at_ p h1]
theorem MapIs.put {D : Dat} {E : List Ent} (h : MapIs D E) (x : Int) (v : Value) (hx : isId x E = false) : MapIs (D.put (kl x) (.held v)) ((x, v) :: E) := by
  refine ⟨h.tidy.put (kl_key _) _, ?_, fun y => ?_, fun p hp z => ?_, List.pairwise_cons.2 ⟨fun q hq => ?_, h.apart⟩⟩
  · rw [Maps.size_put h.tidy, h.has, hx, h.size]
    rfl
  · by_cases hy : y = x
    · subst hy
      rw [Maps.has_put_same h.tidy.isMap (kl_key _), eq_comm, isId_iff]
      exact ⟨_, List.mem_cons_self .., rfl⟩
    · rw [Maps.has_put_other (kl_ne hy), h.has]
      have : ¬ x = y := fun e => hy e.symm
      simp [isId, this]
  · rcases List.mem_cons.1 hp with rfl | hp
    · rw [Maps.atKey_put_same h.tidy.isMap (kl_key _)]
    · rw [Maps.atKey_put_other (kl_ne (isId_no hx p hp)), h.at_ p hp]
  · exact fun e => isId_no hx q hq e.symm
/-- A map in memory. -/
def MapAt (w : World) (b : Nat) (E : List Ent) : Prop := ∃ D, w.ownsMap Try.prog 3 hR b E.length D ∧ MapIs D E
theorem MapAt.keep {w w' : World} {b : Nat} {E : List Ent} (h : MapAt w b E) (hk : w'.heap[b]? = w.heap[b]?) : MapAt w' b E := by
  obtain ⟨D, ⟨es, clock, hb, r⟩, hD⟩ := h
  exact ⟨D, ⟨es, clock, hk.trans hb, r⟩, hD⟩
theorem MapAt.lt {w : World} {b : Nat} {E : List Ent} (h : MapAt w b E) : b < w.heap.size := by
  obtain ⟨D, h, _⟩ := h
  exact h.lt
theorem MapAt.apart {w : World} {b : Nat} {E : List Ent} (h : MapAt w b E) : Apart E := by
  obtain ⟨D, _, h⟩ := h
  exact h.apart
theorem own_tight {w : World} {b n : Nat} {D : Dat} (h : w.ownsMap Try.prog 3 hR b n D) : w.ownsMap Try.prog 3 hR b (Maps.size D) D := by
  obtain ⟨es, clock, hb, F, hs, rfl⟩ := h
  exact ⟨es, clock, hb, F, by simp [Maps.size, length_sorted], rfl⟩
theorem MapAt.of {w : World} {b n : Nat} {D : Dat} {E : List Ent} (h : w.ownsMap Try.prog 3 hR b n D) (hD : MapIs D E) : MapAt w b E := ⟨D, by rw [← hD.size]; exact own_tight h, hD⟩
theorem MapAt.perm {w : World} {b : Nat} {E E' : List Ent} (h : MapAt w b E) (hp : E.Perm E') : MapAt w b E' := by
  obtain ⟨D, ho, hD⟩ := h
  exact MapAt.of ho (hD.perm hp)
theorem MapAt.made (w : World) : MapAt (w.alloc (.map #[] 0)) w.heap.size [] := ⟨.map [], World.ownsMap_made w _ _ _, MapIs.nil⟩
section
variable {w : World} {b : Nat} {E : List Ent} {t e : TypeId} {z : Value} {x : Int}
theorem MapAt.look2 (h : MapAt w b E) (ht : Try.prog.underlying t = some (.map 3 e)) (hz : (zeroValue e).run Try.prog w = .ok z w) (hx : (Lit.int .i64 x).wf = true) :
    (Instr.lookup t (.map (some b)) (.int .i64 x) true).run Try.prog w = .ok (.tuple #[valOf x z E, .bool (isId x E)]) w := by
  obtain ⟨D, ho, hD⟩ := h
  obtain ⟨v, ps, hrun, hv⟩ := ho.look_ok law3 ht hz (zd := .held z) (zp := []) rfl (key_of hx)
  rw [hD.has] at hrun
  rw [hrun]
  have hv' := hR_inj hv
  cases hi : isId x E with
  | true =>
    obtain ⟨p, hp, rfl⟩ := (isId_iff x E).1 hi
    rw [hD.at_ p hp] at hv'
    rw [valOf_mem hD.apart hp rfl, DataW.held.inj hv']
  | false =>
    have hh := hD.has x
    rw [hi] at hh
    rw [Maps.atKey_of_not_has hh] at hv'
    rw [valOf_no hi, DataW.held.inj hv']
theorem MapAt.look1 (h : MapAt w b E) (ht : Try.prog.underlying t = some (.map 3 e)) (hz : (zeroValue e).run Try.prog w = .ok z w) (hx : (Lit.int .i64 x).wf = true) :
    (Instr.lookup t (.map (some b)) (.int .i64 x) false).run Try.prog w = .ok (valOf x z E) w := by
  obtain ⟨D, ho, hD⟩ := h
  obtain ⟨v, ps, hrun, hv⟩ := ho.lookup law3 ht hz (zd := .held z) (zp := []) rfl (key_of hx)
  rw [hrun]
  have hv' := hR_inj hv
  cases hi : isId x E with
  | true =>
    obtain ⟨p, hp, rfl⟩ := (isId_iff x E).1 hi
    rw [hD.at_ p hp] at hv'
    rw [valOf_mem hD.apart hp rfl, DataW.held.inj hv']
  | false =>
    have hh := hD.has x
    rw [hi] at hh
    rw [Maps.atKey_of_not_has hh] at hv'
    rw [valOf_no hi, DataW.held.inj hv']
theorem MapAt.len (h : MapAt w b E) (ht : Try.prog.underlying t = some (.map 3 e)) (ty : TypeId) : (Builtin.len_ #[t] ty #[.map (some b)]).run Try.prog w = .ok (.int .i64 (E.length : Int)) w := by
  obtain ⟨D, ho, hD⟩ := h
  rw [ho.len ht ty, hD.size]
end
section
variable {ops : Array Oper} {rest : List Oper} {o : Oper} {a : Act} {Q : Exit → Act → World → Prop} {W : World}
theorem wpList_del (t : TypeId) {e : TypeId} (ht : Try.prog.underlying t = some (.map 3 e)) (hgd : o.guard = none) (m k : Operand) (hop : o.op = Op.call { callee := Callee.builtin Builtin.delete, args := #[m, k], argTypes := #[t, 3] }) (b : Nat) (E : List Ent) (x : Int)
    (hm : a.eval m = .map (some b)) (h : MapAt W b E) (hx : a.eval k = .int .i64 x) (hw : (Lit.int .i64 x).wf = true)
    (hK : ∀ w', MapAt w' b (noId x E) → W.grownBy w' (some b) → wpList Try.prog ops Q rest (a.put o.dst (.tuple #[])) w') : wpList Try.prog ops Q (o :: rest) a W := by
  obtain ⟨D, ho, hD⟩ := h
  exact wpList_delete_own W hgd m k t 3 hop e law3 ht hR b E.length D hm ho _ _ hx (key_of hw) (fun w' h1 h2 => hK w' (MapAt.of h1 (hD.del x)) h2.grown)
theorem wpList_ins (t : TypeId) {e : TypeId} (ht : Try.prog.underlying t = some (.map 3 e)) (hgd : o.guard = none) (m k v : Operand) (hop : o.op = Op.mapUpdate t m k v) (b : Nat) (E : List Ent) (x : Int) (val : Value)
    (hm : a.eval m = .map (some b)) (h : MapAt W b E) (hl : E.length ≤ 1000000) (hx : a.eval k = .int .i64 x) (hv : a.eval v = val) (hw : (Lit.int .i64 x).wf = true) (hn : isId x E = false)
    (hK : ∀ w', MapAt w' b ((x, val) :: E) → W.grownBy w' (some b) → wpList Try.prog ops Q rest (a.put o.dst undef) w') : wpList Try.prog ops Q (o :: rest) a W := by
  obtain ⟨D, ho, hD⟩ := h
  exact wpList_mapUpdate_in W hgd m k v t hop 3 e law3 ht hR b E.length D hm ho (by unfold maxLen; omega) _ _ _ hx hv (key_of hw) (.held val) [] rfl (fun w' h1 h2 => hK w' (MapAt.of h1 (hD.put x val hn)) h2.grown)
end
theorem zeroI (w : World) : (zeroValue 3).run Try.prog w = .ok (.int .i64 0) w := by kernel_rfl
theorem zeroM (w : World) : (zeroValue 64).run Try.prog w = .ok (.map none) w := by kernel_rfl
theorem zeroU (w : World) : (zeroValue 65).run Try.prog w = .ok (.agg #[]) w := by kernel_rfl
theorem uE : Try.prog.underlying 50 = some (.map 3 3) := Try.underlying50
theorem uD : Try.prog.underlying 51 = some (.map 3 64) := Try.underlying51
theorem uS : Try.prog.underlying 64 = some (.map 3 65) := Try.underlying64
end Go.Proofs.Ytfojempmgonahaa.Wh
