/- What Of of the document's answers says, as words. Conditions: none. -/
import Derived.Test.YtbijaipoifpngaaDoorDOf
set_option linter.unusedVariables false
set_option linter.unusedSimpArgs false
namespace Go.Proofs.YtbijaipoifpngaaDoor.Be
open Go Go.RowKit
/-- A row, as the document's Of takes it. -/
def refRow (q : List E) (t : T) : Option (List E) := match t.l with
  | [a, b, c, d] => if a.k = 1 ∧ mayB a.n b.n = true ∧ errB c.n = true then some (q.set a.n.toNat ⟨b.n, c.n, decide (d.n = 1)⟩) else none
  | _ => none
def refRows : List E → List T → Option (List E)
  | q, [] => some q
  | q, r :: rs => match refRow q r with
    | none => none
    | some q' => refRows q' rs
def refEnd (s : ByteArray) : Option (List E) → Option (List E)
  | none => none
  | some q => if textB q = s then some q else none
def refOf (s : ByteArray) : Option (List E) := match onlyRes s.data.toList with
  | .error _ => none
  | .ok t => refEnd s (refRows q0 t.l)
theorem refRow_ok {q q' : List E} {t : T} (h : Okq q) (he : refRow q t = some q') : Okq q' := by
  unfold refRow at he
  split at he
  · rename_i a b c d _
    split at he
    · rename_i hm
      obtain ⟨_, h1, h2⟩ := hm
      injection he with he
      subst he
      simp only [Bool.and_eq_true, mayB, cliB, seqB, errB, decide_eq_true_eq] at h1 h2
      obtain ⟨m1, m2, m3⟩ := h1
      obtain ⟨m4, m5⟩ := h2
      exact h.set _ ⟨⟨by show (0 : Int) ≤ b.n; omega, m3⟩, ⟨m4, m5⟩, fun (e0 : b.n = 0) => by omega⟩
    · cases he
  · cases he
theorem refRows_ok : ∀ (l : List T) (q q' : List E), Okq q → refRows q l = some q' → Okq q'
  | [], q, q', h, he => by
    injection he with he
    exact he ▸ h
  | r :: rs, q, q', h, he => by
    rw [refRows] at he
    cases hr : refRow q r with
    | none => rw [hr] at he; cases he
    | some q1 =>
      rw [hr] at he
      exact refRows_ok rs q1 q' (refRow_ok h hr) he
theorem refRow_four {q : List E} {r : T} {c s e b : Int} (h : four? r = some (c, s, e, b)) (hp : (putM q c s e (decide (b = 1))).2 = 0) : refRow q r = some (putM q c s e (decide (b = 1))).1 := by
  unfold four? at h
  unfold refRow
  split at h
  · rename_i x0 x1 x2 x3 hl
    split at h
    · rename_i hk
      simp only [Option.some.injEq, Prod.mk.injEq] at h
      obtain ⟨rfl, rfl, rfl, rfl⟩ := h
      rw [hl]
      simp only
      unfold putM at hp ⊢
      split at hp
      · rename_i hm
        have hm2 := hm
        simp only [Bool.and_eq_true] at hm2
        rw [if_pos ⟨hk.1, hm2.1, hm2.2⟩, if_pos hm]
        split at hp
        · cases hp
        · rename_i hn
          rw [if_neg hn]
      · cases hp
    · cases h
  · cases h
theorem refRows_of : ∀ (l : List T) (b : Int) (q q' : List E), ofRows b q l = some q' → refRows q l = some q'
  | [], b, q, q', h => h
  | r :: rs, b, q, q', h => by
    rw [ofRows] at h
    cases hf : four? r with
    | none => rw [hf] at h; cases h
    | some p =>
      obtain ⟨c, s, e, x⟩ := p
      rw [hf] at h
      simp only at h
      split at h
      · rename_i hc
        rw [refRows, refRow_four hf hc.2.1]
        exact refRows_of rs c _ q' h
      · cases h
theorem refOf_is (s : ByteArray) : refOf s = ofM s.data.toList := by
  cases ho : ofM s.data.toList with
  | some q =>
    obtain ⟨h1, rfl⟩ := ofM_some ho
    unfold refOf
    rw [text_only h1]
    simp only
    rw [show refRows q0 (textT q).l = some q from refRows_of _ _ _ _ (ofRows_text h1)]
    unfold refEnd
    simp
  | none =>
    cases hr : refOf s with
    | none => rfl
    | some q =>
      exfalso
      unfold refOf at hr
      split at hr
      · cases hr
      · rename_i t _
        cases hq1 : refRows q0 t.l with
        | none => rw [hq1] at hr; cases hr
        | some q1 =>
          rw [hq1] at hr
          unfold refEnd at hr
          simp only at hr
          split at hr
          · rename_i he
            have hk := refRows_ok _ _ _ okq0 hq1
            have := ofM_text hk
            rw [he, ho] at this
            cases this
          · cases hr
end Go.Proofs.YtbijaipoifpngaaDoor.Be
