/- What the small methods of a tree return: given, Len, vector. Conditions: a tree that New gave, in memory. -/
import Derived.Test.YtkgapieikgniiaaVTr
set_option linter.unusedVariables false
set_option linter.unusedSimpArgs false
namespace Go.Proofs.Ytkgapieikgniiaa
open Go Go.RowKit Go.Maps
theorem law3 : Keyed Try.prog 3 := int_keyed Try.underlying3
theorem zeroS (w : World) : (zeroValue 35).run Try.prog w = .ok (.slice none 0 0) w := by kernel_rfl
theorem key_of {x : Int} (h : (Lit.int .i64 x).wf = true) : keyOf Try.prog 3 (.int .i64 x) = some (kl x) := keyOf_int_mk Try.underlying3 h
theorem hR_inj {v : Value} {d : Dat} {ps : List MemPlace} (h : hR v = some (d, ps)) : d = .held v := by
  unfold hR at h
  injection h with h
  injection h with h1 _
  exact h1.symm
theorem MapAt.look {w : World} {b : Nat} {E : List Ent} (h : MapAt w b E) {x : Int} (hx : (Lit.int .i64 x).wf = true) :
    (isId x E = true → ∃ v l, (x, v, l) ∈ E ∧ (Instr.lookup 64 (.map (some b)) (.int .i64 x) true).run Try.prog w = .ok (.tuple #[v, .bool true]) w) ∧
    (isId x E = false → (Instr.lookup 64 (.map (some b)) (.int .i64 x) true).run Try.prog w = .ok (.tuple #[.slice none 0 0, .bool false]) w) := by
  obtain ⟨D, ho, hD⟩ := h
  obtain ⟨v, ps, hrun, hv⟩ := ho.look_ok law3 Try.underlying64 (zeroS w) (zd := .held (.slice none 0 0)) (zp := []) rfl (key_of hx)
  rw [hD.has] at hrun
  have hv := hR_inj hv
  refine ⟨fun hi => ?_, fun hi => ?_⟩
  · obtain ⟨⟨y, u, l⟩, hp, rfl⟩ := (isId_iff _ _).1 hi
    have e := hD.at_ _ hp (.held (.slice none 0 0))
    have hv2 := DataW.held.inj (e.symm.trans hv)
    subst hv2
    rw [hi] at hrun
    exact ⟨_, l, hp, hrun⟩
  · have hv2 := DataW.held.inj ((Maps.atKey_of_not_has (by rw [hD.has]; exact hi) _).symm.trans hv)
    subst hv2
    rw [hi] at hrun
    exact hrun
theorem MapAt.len_run {w : World} {b : Nat} {E : List Ent} (h : MapAt w b E) (ty : TypeId) : (Builtin.len_ #[64] ty #[.map (some b)]).run Try.prog w = .ok (.int .i64 (E.length : Int)) w := by
  obtain ⟨D, ho, hD⟩ := h
  rw [← hD.size]
  exact ho.len Try.underlying64 ty
section
variable {w w' : World} {F : Nat → Prop} {t bm fm dim : Nat} {rv : Value} {N : NT} {B U : List Ent}
theorem tree_row : (Try.prog.info? 23).map (fun i => i.size) = some 1 := by kernel_rfl
theorem teql_self (d : Nat) (w : World) : (binOp .eql 23 (.pointer (some ⟨d, 0, none⟩)) (.pointer (some ⟨d, 0, none⟩))).run Try.prog w = .ok (.bool true) w := by
  obtain ⟨i, hi, _⟩ := Option.map_eq_some_iff.1 (show (Try.prog.info? 66).map (fun i => i.size) = some 5 by kernel_rfl)
  exact run_eql_ptr_same w _ Try.underlying23 hi
theorem vgiven_any (h : TreeW w F t bm fm dim rv N B U) : Calls Try.prog 29 #[.pointer (some ⟨t, 0, none⟩)] w (Says (.bool true) w) := by
  have hc := h.c0
  have hl := h.tlt
  have he := teql_self t w
  clear h
  go_enter Try.func29, Try.ntmps29
  go_wp2
  go_ret
  exact ⟨rfl, 0, rfl⟩
theorem vlen_any (h : TreeW w F t bm fm dim rv N B U) : Calls Try.prog 15 #[.pointer (some ⟨t, 0, none⟩)] w (Says (.int .i64 ((B.length + U.length : Nat) : Int)) w) := by
  have hg := vgiven_any h
  have hlen := h.len
  go_enter Try.func15, Try.ntmps15
  go_wp2_with fail
  refine hg.mono ?_
  rintro e w1 ⟨rfl, q, rfl⟩
  have c3 := h.c3
  have c4 := h.c4
  have l1 := fun n ty => (h.drewN n).mb.len_run ty
  have l2 := fun n ty => (h.drewN n).mf.len_run ty
  have hl := h.tlt
  clear h hg
  generalize B.length = b at *
  generalize U.length = u at *
  go_wp2
  go_quiet (fail)
  go_wp2
  go_ret
  exact ⟨by simp, _, World.drewN_drewN ..⟩
/-- What is there at a number. -/
inductive At (B U : List Ent) (x : Int) : Value → Bool → Prop where
  | yes (v : Value) (l : List Int) (h : (x, v, l) ∈ B ++ U) : At B U x v true
  | no (h1 : isId x B = false) (h2 : isId x U = false) : At B U x (.slice none 0 0) false
theorem vvec_any (h : TreeW w F t bm fm dim rv N B U) {x : Int} (hx : (Lit.int .i64 x).wf = true) : Calls Try.prog 45 #[.pointer (some ⟨t, 0, none⟩), .int .i64 x] w fun e w' => ∃ v r, At B U x v r ∧ e = .returned (.tuple #[v, .bool r]) ∧ ∃ q, w' = w.drewN q := by
  have hg := vgiven_any h
  go_enter Try.func45, Try.ntmps45
  go_wp2_with fail
  refine hg.mono ?_
  rintro e w1 ⟨rfl, q, rfl⟩
  have c3 := (h.drewN q).c3
  have c4 := (h.drewN q).c4
  have hl := (h.drewN q).tlt
  obtain ⟨y1, n1⟩ := (h.drewN q).mb.look hx
  obtain ⟨y2, n2⟩ := (h.drewN q).mf.look hx
  cases i1 : isId x B with
  | true =>
    obtain ⟨v, l, hm, hrun⟩ := y1 i1
    have HA := Lib.hid (At.yes (B := B) (U := U) (x := x) v l (List.mem_append_left _ hm))
    clear h hg y1 n1 y2 n2 hm i1
    go_wp2
    go_ret2
    exact ⟨v, true, HA.out, rfl, _, rfl⟩
  | false =>
    have r1 := n1 i1
    cases i2 : isId x U with
    | true =>
      obtain ⟨v, l, hm, hrun⟩ := y2 i2
      have HA := Lib.hid (At.yes (B := B) (U := U) (x := x) v l (List.mem_append_right _ hm))
      clear h hg y1 n1 y2 n2 hm i1 i2
      go_wp2
      go_ret2
      exact ⟨v, true, HA.out, rfl, _, rfl⟩
    | false =>
      have r2 := n2 i2
      have HA := Lib.hid (At.no (B := B) (U := U) (x := x) i1 i2)
      clear h hg y1 n1 y2 n2 i1 i2
      go_wp2
      go_ret2
      exact ⟨_, false, HA.out, rfl, _, rfl⟩
end
end Go.Proofs.Ytkgapieikgniiaa
