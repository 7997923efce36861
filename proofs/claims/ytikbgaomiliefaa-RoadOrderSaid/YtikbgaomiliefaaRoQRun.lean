/- copy, clear and append at queues of letters. Conditions: none. -/
import Derived.Test.YtikbgaomiliefaaRoQ
import Derived.Lib.SliceRun
set_option linter.unusedVariables false
set_option linter.unusedSimpArgs false
set_option maxRecDepth 100000
namespace Go.Proofs.Ytikbgaomiliefaa.Ro
open Go Go.RowKit
theorem run_copy3 {P : Program} (w : World) (dT sT ty elem : TypeId) (b o dLen dCap : Nat) (a : Addr) (sLen sCap : Nat) (cs : List Value)
    (hu : P.underlying dT = some (.slice elem)) (hs : (P.info? elem).map (·.size) = some 3) (hn : cs.length = Nat.min sLen dLen * 3)
    (hsrc : ∀ j v, cs[j]? = some v → w.cell? (a.add j) = some v) (hc : ∀ j, j < cs.length → (w.cell? ⟨b, o + j, none⟩).isSome = true) (hf : ∀ j, j < cs.length → w.frozen? ⟨b, o + j, none⟩ = false) (h1 : ∀ v ∈ cs, v.oneCell' = true) :
    (Builtin.copy_ #[dT, sT] ty #[.slice (some ⟨b, o, none⟩) dLen dCap, .slice (some a) sLen sCap]).run P w = .ok (goInt (Nat.min sLen dLen)) (w.setCells b o cs) := by
  have hl := run_firstCells_some (P := P) w 3 (Nat.min sLen dLen) a sLen sCap cs hn hsrc
  have hst := run_storeCells_cells (P := P) b o cs 0 w (by simpa using hc) (by simpa using hf) h1
  cases hq : P.info? elem with
  | none => simp [hq] at hs
  | some i =>
    have hi : i.size = 3 := by simpa [hq] using hs
    simp [Builtin.copy_, run_underlying hu, Builtin.lenOf, sizeOf, typeInfo, hq, hi, hl, hst]
theorem run_clear1 {P : Program} (w : World) (t e ty : TypeId) (z : Value) (zs : List Value) (ht : P.underlying t = some (.slice e)) (hv : ∀ w, (zeroValue e).run P w = .ok z w) (hz : z.cells = zs.toArray) (h1 : ∀ v ∈ zs, v.oneCell' = true) (b o c : Nat)
    (hc : ∀ j, j < zs.length → (w.cell? ⟨b, o + j, none⟩).isSome = true) (hf : ∀ j, j < zs.length → w.frozen? ⟨b, o + j, none⟩ = false) :
    (Builtin.clear_ #[t] ty #[.slice (some ⟨b, o, none⟩) 1 c]).run P w = .ok (.tuple #[]) (w.setCells b o zs) := by
  have hzc : (Builtin.zeroCells z.cells 1).toList = zs := by
    rw [hz]
    apply List.ext_getElem
    · simp [Builtin.zeroCells]
    · intro i h1 h2
      simp [Builtin.zeroCells, Nat.mod_eq_of_lt h2, h2]
  have hst := run_storeCells_cells (P := P) b o zs 0 w (by simpa using hc) (by simpa using hf) h1
  simp only [Nat.add_zero] at hst
  simp [Builtin.clear_, run_underlying ht, hv, hzc, hst]
theorem lc_one (l : Lt) : ∀ u ∈ lc l, u.oneCell' = true := by
  intro u hu
  simp [lc] at hu
  rcases hu with rfl | rfl | rfl <;> rfl
theorem lts_single (l : Lt) : lts [l] = lc l := by simp [lts]
theorem lts_snoc (L : List Lt) (l : Lt) : lts L ++ lc l = lts (L ++ [l]) := by rw [← lts_single, lts_app]
section
variable {w : World} {s : Sl} {L : List Lt} {l : Lt}
theorem qa_own {w' : World} {v : Value} {n : Nat} (h : w'.ownsRow w.heap.size 34 3 v n (lts L)) (hg : w.grownBy w' none) (hn : 0 < n) (A : Option Addr) : ∃ s', v = sc s' ∧ QA w' s' L ∧ Turn (Ob A) w (Ob s'.1) w' := by
  obtain ⟨A', c, rfl, _, _⟩ := own_shape h
  obtain ⟨b, rfl, hb, hq⟩ := qb_own h hn
  refine ⟨(some ⟨b, 0, none⟩, n, c), rfl, .inr ⟨b, 0, n, c, rfl, hq⟩, ⟨hg.os, hg.tape, hg.output, hg.size, fun x hx _ => hg.block x hx (by simp), ?_⟩⟩
  rintro x ⟨ad, e, rfl⟩
  injection e with e
  subst e
  exact .inr hb
theorem run_append_q (ty : TypeId) (h : QA w s L) (hn : L.length ≤ 1000000) (ad : Addr) (c : Nat) (hsrc : ∀ j u, (lc l)[j]? = some u → w.cell? (ad.add j) = some u) :
    ∃ s' w', (Builtin.append_ #[59, 59] ty #[sc s, .slice (some ad) 1 c]).run Try.prog w = .ok (sc s') w' ∧ QA w' s' (L ++ [l]) ∧ Turn (Ob s.1) w (Ob s'.1) w' := by
  obtain ⟨i0, hi, hz0, hz1, hz2⟩ := info_parts letter_row
  rcases h with ⟨rfl, rfl⟩ | ⟨b, off, n, d, rfl, h⟩
  · obtain ⟨v', w', hr, ho, hg, _⟩ := run_append_any (P := Try.prog) w w.heap.size 59 ty 34 i0 _ 3 32 Try.underlying59 hi hz0 hz1 hz2 rfl (by decide) (.slice none 0 0) 0 [] (World.ownsRow_nil ..) (ad.block + 1) (some ad) 1 c (lc l) ⟨rfl, fun _ => ⟨ad, rfl, by omega, hsrc⟩⟩ (lc_one l) (by simp [maxLen]) (by decide) (Nat.le_refl _)
    have ho : w'.ownsRow w.heap.size 34 3 v' (0 + 1) (lts [l]) := by rw [lts_single]; simpa using ho
    obtain ⟨s', rfl, hq, T⟩ := qa_own ho hg (by omega) none
    exact ⟨s', w', hr, hq, T⟩
  · have hl := h.len
    by_cases hroom : n + 1 ≤ d
    · have hsp : ∀ j, j < (lc l).length → (w.cell? ⟨b, off + n * i0.size + j, none⟩).isSome = true ∧ w.frozen? ⟨b, off + n * i0.size + j, none⟩ = false := fun j hj => by
        rw [hz1, Nat.add_assoc]
        have hj : j < 3 := hj
        exact h.room (n * 3 + j) (by omega)
      have hr := run_append_room_cells (P := Try.prog) w 59 ty 34 i0 Try.underlying59 hi b off n d ad 1 c (lc l) (by rw [hz1]; rfl) hsrc (lc_one l) hroom (fun j hj => (hsp j hj).1) (fun j hj => (hsp j hj).2)
      rw [hz1] at hr
      refine ⟨(some ⟨b, off, none⟩, n + 1, d), _, hr, .inr ⟨b, off, n + 1, d, rfl, ?_⟩, Turn.sets (F := Ob (some ⟨b, off, none⟩)) ⟨_, rfl, rfl⟩ _ _⟩
      have hll : (lts L).length = n * 3 := by rw [lts_len, hl]
      have h3 : (lc l).length = 3 := rfl
      refine h.sets (n * 3) (lc l) _ _ (by omega) (by omega) (by simp [hl]) hroom ⟨[], ?_⟩
      rw [List.take_of_length_le (by omega), List.drop_eq_nil_of_le (by omega), List.append_nil, List.append_nil, lts_snoc]
    · obtain ⟨v', w', hr, ho, hg⟩ := run_append_arg_grows (P := Try.prog) w 59 ty 34 i0 _ 3 32 Try.underlying59 hi hz0 hz1 hz2 rfl (by decide) ⟨b, off, none⟩ n d (lts L) (by rw [lts_len, hl]) (fun j u hj => by rw [add_flat]; exact h.reads j u hj) ad 1 c (lc l) rfl hsrc (by omega) (by unfold maxLen; omega) (by omega)
      rw [lts_snoc] at ho
      obtain ⟨s', rfl, hq, T⟩ := qa_own ho hg (by omega) (some ⟨b, off, none⟩)
      exact ⟨s', w', hr, hq, T⟩
theorem step_append_q {ops : Array Oper} {o : Oper} {a : Act} {K : Act → World → Prop} {Q : Exit → Act → World → Prop} {E : Prop} (hgd : o.guard = none) (x y : Operand)
    (ho : o.op = .call { callee := .builtin .append, args := #[x, y], argTypes := #[59, 59] })
    (hs : a.eval x = sc s) (h : QA w s L) (hn : L.length ≤ 1000000) (ad : Addr) (c : Nat) (hx : a.eval y = .slice (some ad) 1 c) (hsrc : ∀ j u, (lc l)[j]? = some u → w.cell? (ad.add j) = some u)
    (hK : ∀ s' w', QA w' s' (L ++ [l]) → Turn (Ob s.1) w (Ob s'.1) w' → K (a.put o.dst (sc s')) w') :
    if Region.wanted o (yielded ops a.tmps) = true then Oper.wp Try.prog o a w K Q else E := by
  have hw : Region.wanted o (yielded ops a.tmps) = true := by simp [Region.wanted, hgd]
  rw [if_pos hw]
  obtain ⟨s', w', hrun, h2, h3⟩ := run_append_q o.type h hn ad c hsrc
  unfold Oper.wp execOp
  simp only [ho, resolve, invoke, builtin, Sem.run_bind, Sem.run_pure, Result.andThen_ok, List.map_toArray, List.map_cons, List.map_nil, hs, hx, hrun]
  exact hK s' w' h2 h3
end
end Go.Proofs.Ytikbgaomiliefaa.Ro
