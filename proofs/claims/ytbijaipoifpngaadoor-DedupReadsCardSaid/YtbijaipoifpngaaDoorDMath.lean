/- The rows of a table's text, there and back: plain. Conditions: none. -/
import Derived.Test.YtbijaipoifpngaaDoorDRow
set_option linter.unusedVariables false
set_option linter.unusedSimpArgs false
set_option maxRecDepth 100000
namespace Go.Proofs.YtbijaipoifpngaaDoor.Be
open Go Go.RowKit
def b2i (b : Bool) : Int := if b then 1 else 0
def rowT (i : Nat) (x : E) : T := tR i x.s x.e (b2i x.b)
def rowsFrom : Nat → List E → List T
  | _, [] => []
  | i, x :: r => if 0 < x.s then rowT i x :: rowsFrom (i + 1) r else rowsFrom (i + 1) r
def textT (q : List E) : T := .mk 3 0 .empty (rowsFrom 0 q)
def textB (q : List E) : ByteArray := ⟨(enc (textT q)).toArray⟩
theorem rows_app : ∀ (a b : List E) (i : Nat), rowsFrom i (a ++ b) = rowsFrom i a ++ rowsFrom (i + a.length) b
  | [], b, i => by simp [rowsFrom]
  | x :: r, b, i => by
    simp only [List.cons_append, rowsFrom, List.length_cons]
    rw [rows_app r b (i + 1), show i + 1 + r.length = i + (r.length + 1) by omega]
    split <;> simp
theorem take_snoc (q : List E) {k : Nat} (hk : k < q.length) : q.take (k + 1) = q.take k ++ [q[k]!] := by
  rw [List.take_succ_eq_append_getElem hk, List.getElem!_eq_getElem?_getD, List.getElem?_eq_getElem hk]
  rfl
theorem rows_yes (q : List E) {k : Nat} (hk : k < q.length) (h : 0 < q[k]!.s) : rowsFrom 0 (q.take (k + 1)) = rowsFrom 0 (q.take k) ++ [rowT k q[k]!] := by
  rw [take_snoc q hk, rows_app, List.length_take, Nat.min_eq_left (by omega), Nat.zero_add]
  generalize q[k]! = x at h ⊢
  simp [rowsFrom, h]
theorem rows_no (q : List E) {k : Nat} (hk : k < q.length) (h : ¬ 0 < q[k]!.s) : rowsFrom 0 (q.take (k + 1)) = rowsFrom 0 (q.take k) := by
  rw [take_snoc q hk, rows_app]
  generalize q[k]! = x at h ⊢
  simp [rowsFrom, h]
theorem rows_len : ∀ (q : List E) (i : Nat), (rowsFrom i q).length ≤ q.length
  | [], i => by simp [rowsFrom]
  | x :: r, i => by
    have := rows_len r (i + 1)
    simp only [rowsFrom]
    split <;> simp <;> omega
def S64 (n : Int) : Prop := -9223372036854775808 ≤ n ∧ n ≤ 9223372036854775807
theorem tN_facts {n : Int} (h : S64 n) : kindsOk (tN n) = true ∧ deepT (tN n) = 0 ∧ wfT (tN n) = true ∧ tidy (tN n) = tN n ∧ (enc (tN n)).length ≤ 22 := by
  refine ⟨by simp [tN, kindsOk], by simp [tN, deepT], ?_, by simp [tN, tidy], ?_⟩
  · have h1 := h.1
    have h2 := h.2
    simp [tN, wfT, wfL, h1, h2]
  · have := itoa_len n h.1 h.2
    simp only [tN, enc, if_true, List.length_cons, List.length_append, List.length_nil]
    omega
theorem tR_facts {c s e b : Int} (hc : S64 c) (hs : S64 s) (he : S64 e) (hb : S64 b) : kindsOk (tR c s e b) = true ∧ deepT (tR c s e b) = 1 ∧ wfT (tR c s e b) = true ∧ tidy (tR c s e b) = tR c s e b ∧ (enc (tR c s e b)).length ≤ 90 := by
  obtain ⟨a1, a2, a3, a4, a5⟩ := tN_facts hc
  obtain ⟨b1, b2, b3, b4, b5⟩ := tN_facts hs
  obtain ⟨c1, c2, c3, c4, c5⟩ := tN_facts he
  obtain ⟨d1, d2, d3, d4, d5⟩ := tN_facts hb
  refine ⟨by simp [tR, kindsOk, kindsOkL, a1, b1, c1, d1], by simp [tR, deepT, deepL, a2, b2, c2, d2], by simp [tR, wfT, wfL, a3, b3, c3, d3], by simp [tR, tidy, tidyL, a4, b4, c4, d4], ?_⟩
  simp only [tR, enc_list, encL, List.length_cons, List.length_append, List.length_nil]
  omega
theorem b2i_64 (b : Bool) : S64 (b2i b) := by cases b <;> exact ⟨by decide, by decide⟩
theorem rowT_facts {i : Nat} {x : E} (hi : i < 1000) (hx : GoodE x) : kindsOk (rowT i x) = true ∧ deepT (rowT i x) = 1 ∧ wfT (rowT i x) = true ∧ tidy (rowT i x) = rowT i x ∧ (enc (rowT i x)).length ≤ 90 :=
  tR_facts ⟨by omega, by omega⟩ ⟨by have := hx.1; omega, by have := hx.1; omega⟩ ⟨by have := hx.2.1; omega, by have := hx.2.1; omega⟩ (b2i_64 _)
theorem rows_facts : ∀ (q : List E) (i : Nat), i + q.length < 1000 → (∀ x ∈ q, GoodE x) → kindsOkL (rowsFrom i q) = true ∧ deepL (rowsFrom i q) ≤ 1 ∧ wfL (rowsFrom i q) = true ∧ tidyL (rowsFrom i q) = rowsFrom i q ∧ (encL (rowsFrom i q)).length ≤ 90 * q.length
  | [], i, _, _ => by simp [rowsFrom, kindsOkL, deepL, wfL, tidyL, encL]
  | x :: r, i, hi, h => by
    simp only [List.length_cons] at hi
    obtain ⟨a1, a2, a3, a4, a5⟩ := rows_facts r (i + 1) (by omega) (fun y hy => h y (List.mem_cons_of_mem _ hy))
    simp only [rowsFrom, List.length_cons]
    split
    · obtain ⟨b1, b2, b3, b4, b5⟩ := rowT_facts (i := i) (by omega) (h x (List.mem_cons_self ..))
      refine ⟨by simp [kindsOkL, a1, b1], by simp only [deepL, b2]; omega, by simp [wfL, a3, b3], by simp [tidyL, a4, b4], ?_⟩
      simp only [encL, List.length_append]
      omega
    · exact ⟨a1, a2, a3, a4, by omega⟩
theorem text_facts {q : List E} (h : Okq q) : kindsOk (textT q) = true ∧ deepT (textT q) ≤ 2 ∧ wfT (textT q) = true ∧ tidy (textT q) = textT q ∧ (enc (textT q)).length ≤ 722 := by
  have hl := h.len
  obtain ⟨a1, a2, a3, a4, a5⟩ := rows_facts q 0 (by omega) h.good
  refine ⟨by simp [textT, kindsOk, a1], by simp only [textT, deepT]; simp; omega, by simp [textT, wfT, a3], by simp [textT, tidy, a4], ?_⟩
  simp only [textT, enc_list, List.length_cons, List.length_append, List.length_nil]
  omega
theorem text_gd {q : List E} (h : Okq q) : gdT (textT q) 0 [] = true := by
  obtain ⟨a1, a2, a3, a4, a5⟩ := text_facts h
  exact gdT_iff.2 ⟨a1, by omega, by rw [List.nil_append]; omega⟩
/-- What is read of a table's text. -/
theorem text_only {q : List E} (h : Okq q) : onlyRes (textB q).data.toList = .ok (textT q) := by
  obtain ⟨a1, a2, a3, a4, a5⟩ := text_facts h
  have := rd_enc (textT q) 0 [] a1 a3 (by omega) (by omega)
  rw [List.append_nil, a4] at this
  unfold onlyRes takeRes textB
  rw [List.toList_toArray, this]
  simp only
  rw [if_neg (by omega)]
  simp
/-- A row of a list of values: the numbers of a client. -/
def four? (r : T) : Option (Int × Int × Int × Int) := match r.l with
  | [a, b, c, d] => if a.k = 1 ∧ b.k = 1 ∧ c.k = 1 ∧ d.k = 1 then some (a.n, b.n, c.n, d.n) else none
  | _ => none
/-- The table of a list of rows, as Of goes over them. -/
def ofRows : Int → List E → List T → Option (List E)
  | _, q, [] => some q
  | before, q, r :: rs => match four? r with
    | none => none
    | some (c, s, e, b) => if (b = 0 ∨ b = 1) ∧ (putM q c s e (decide (b = 1))).2 = 0 ∧ before < c then ofRows c (putM q c s e (decide (b = 1))).1 rs else none
def ofM (bs : List UInt8) : Option (List E) := match onlyRes bs with
  | .error _ => none
  | .ok t => if t.k = 3 then ofRows (-1) q0 t.l else none
theorem rows_zero : ∀ (l : List E) (i : Nat), (∀ x ∈ l, x.s = 0) → rowsFrom i l = []
  | [], i, _ => rfl
  | x :: r, i, h => by
    have h0 := h x (List.mem_cons_self ..)
    simp only [rowsFrom]
    rw [if_neg (by omega)]
    exact rows_zero r (i + 1) (fun y hy => h y (List.mem_cons_of_mem _ hy))
theorem rows_set {q : List E} {c : Nat} {x : E} (hc : c < q.length) (hx : 0 < x.s) (h0 : ∀ j, c ≤ j → j < q.length → q[j]! = e0) : rowsFrom 0 (q.set c x) = rowsFrom 0 q ++ [rowT c x] := by
  have hz : ∀ y ∈ q.drop c, y.s = 0 := fun y hy => by
    obtain ⟨j, hj, e⟩ := List.getElem_of_mem hy
    rw [List.getElem_drop] at e
    rw [List.length_drop] at hj
    have := h0 (c + j) (by omega) (by omega)
    rw [List.getElem!_eq_getElem?_getD, List.getElem?_eq_getElem (by omega)] at this
    rw [← e]
    have e2 : q[c + j] = e0 := this
    rw [e2]
    rfl
  have e1 : q.set c x = q.take c ++ x :: q.drop (c + 1) := by rw [List.set_eq_take_append_cons_drop, if_pos hc]
  have e2 : rowsFrom 0 q = rowsFrom 0 (q.take c) := by
    have := rows_app (q.take c) (q.drop c) 0
    rw [List.take_append_drop] at this
    rw [this, rows_zero _ _ hz, List.append_nil]
  rw [e1, rows_app, e2, List.length_take, Nat.min_eq_left (by omega), Nat.zero_add]
  simp only [rowsFrom, if_pos hx]
  have hd : q.drop (c + 1) = (q.drop c).drop 1 := by rw [List.drop_drop]
  have hz2 : rowsFrom (c + 1) (q.drop (c + 1)) = [] := rows_zero _ _ (fun y hy => hz y (by
    rw [hd] at hy
    exact List.mem_of_mem_drop hy))
  rw [hz2]
theorem tN_n (n : Int) : (tN n).n = n ∧ (tN n).k = 1 := ⟨rfl, rfl⟩
theorem four_rowT (i : Nat) (x : E) : four? (rowT i x) = some ((i : Int), x.s, x.e, b2i x.b) := rfl
theorem good_may {x : E} {i : Nat} (hi : i < 8) (h : GoodE x) (h0 : 0 < x.s) : (mayB i x.s && errB x.e) = true := by
  obtain ⟨⟨h1, h2⟩, ⟨h3, h4⟩, _⟩ := h
  simp only [mayB, cliB, seqB, errB, Bool.and_eq_true, decide_eq_true_eq]
  exact ⟨⟨⟨by omega, by omega⟩, by omega, by omega⟩, by omega, by omega⟩
theorem b2i_b (b : Bool) : decide (b2i b = 1) = b := by cases b <;> rfl
theorem ofRows_back : ∀ (n i : Nat) (q : List E) (before : Int), n = 8 - i → i ≤ 8 → Okq q → before < i → ofRows before (q.take i ++ q0.drop i) (rowsFrom i (q.drop i)) = some q
  | 0, i, q, before, hn, hi, hq, hb => by
    obtain rfl : i = 8 := by omega
    have hl := hq.len
    have d1 : q.drop 8 = [] := List.drop_of_length_le (by omega)
    have d2 : q.take 8 = q := List.take_of_length_le (by omega)
    have d3 : q0.drop 8 = [] := rfl
    rw [d1, d2, d3, List.append_nil]
    rfl
  | n + 1, i, q, before, hn, hi, hq, hb => by
    have hl := hq.len
    have hi8 : i < 8 := by omega
    have hg := hq.at_ hi8
    have hd : q.drop i = q[i]! :: q.drop (i + 1) := by
      rw [List.getElem!_eq_getElem?_getD, List.getElem?_eq_getElem (by omega)]
      exact List.drop_eq_getElem_cons (by omega)
    have ht := take_snoc q (k := i) (by omega)
    have hz : q0.drop i = e0 :: q0.drop (i + 1) := by
      rw [List.drop_eq_getElem_cons (by show i < 8; omega)]
      simp only [q0, List.getElem_replicate]
    have hcl : (q.take i).length = i := by rw [List.length_take]; omega
    rw [hd]
    have ih := fun b' (hb' : b' < ((i + 1 : Nat) : Int)) => ofRows_back n (i + 1) q b' (by omega) (by omega) hq hb'
    rw [ht] at ih
    generalize q[i]! = x at *
    simp only [rowsFrom]
    by_cases hs : 0 < x.s
    · rw [if_pos hs]
      have hm := good_may hi8 hg hs
      have hcur : (q.take i ++ q0.drop i)[((i : Int)).toNat]!.s = 0 := by
        rw [Int.toNat_natCast, List.getElem!_eq_getElem?_getD, List.getElem?_append_right (by omega), hcl, Nat.sub_self, hz]
        rfl
      have hput : putM (q.take i ++ q0.drop i) i x.s x.e x.b = (q.take i ++ [x] ++ q0.drop (i + 1), 0) := by
        unfold putM
        rw [if_pos hm, if_neg (by rw [hcur]; omega), Int.toNat_natCast, List.set_append_right _ _ (by omega), hcl, Nat.sub_self, hz]
        simp
      have e1 : ofRows before (q.take i ++ q0.drop i) (rowT i x :: rowsFrom (i + 1) (q.drop (i + 1))) = ofRows i (q.take i ++ [x] ++ q0.drop (i + 1)) (rowsFrom (i + 1) (q.drop (i + 1))) := by
        rw [ofRows, four_rowT]
        simp only [b2i_b, hput]
        rw [if_pos ⟨by cases x.b <;> simp [b2i], trivial, hb⟩]
      rw [e1]
      exact ih i (by omega)
    · rw [if_neg hs]
      have hx : x = e0 := hg.2.2 (by have := hg.1.1; omega)
      subst hx
      rw [hz, show q.take i ++ e0 :: q0.drop (i + 1) = q.take i ++ [e0] ++ q0.drop (i + 1) by simp]
      exact ih before (by omega)
theorem ofRows_text {q : List E} (h : Okq q) : ofRows (-1) q0 (rowsFrom 0 q) = some q := by
  have := ofRows_back 8 0 q (-1) rfl (by omega) h (by omega)
  simpa using this
structure Inv (before : Int) (cur : List E) : Prop where
  ok : Okq cur
  lo : -1 ≤ before
  zero : ∀ j : Nat, j < 8 → before < j → cur[j]! = e0
theorem four_row {r : T} {c s e b : Int} (hk : kindsOk r = true) (hc : cleanT r = true) (ht : tidy r = r) (h : four? r = some (c, s, e, b)) : r = tR c s e b := by
  obtain ⟨k, n, st, l⟩ := r
  simp only [four?, T.l] at h
  match l, h with
  | [a, b', c', d], h =>
    simp only at h
    split at h
    · rename_i hkk
      simp only [Option.some.injEq, Prod.mk.injEq] at h
      obtain ⟨rfl, rfl, rfl, rfl⟩ := h
      obtain ⟨k1, k2, k3, k4⟩ := hkk
      have hk3 : k = 3 := by
        simp only [cleanT, Bool.and_eq_true, Bool.or_eq_true, decide_eq_true_eq, List.isEmpty_cons] at hc
        rcases hc.1.2 with h | h
        · exact h
        · cases h
      subst hk3
      rw [tidy_list] at ht
      injection ht with _ h1 h2 h3
      simp only [tidyL, List.cons.injEq] at h3
      obtain ⟨t1, t2, t3, t4, _⟩ := h3
      have one : ∀ u : T, u.k = 1 → tidy u = u → u = tN u.n := fun u hu hty => by
        obtain ⟨uk, un, us, ul⟩ := u
        simp only [T.k] at hu
        subst hu
        rw [tidy_int] at hty
        exact hty.symm
      rw [tR, ← one a k1 t1, ← one b' k2 t2, ← one c' k3 t3, ← one d k4 t4, h1, h2]
    · cases h
theorem putM_zero {cur : List E} {c s e : Int} {b : Bool} (h : (putM cur c s e b).2 = 0) : (mayB c s && errB e) = true ∧ (putM cur c s e b).1 = cur.set c.toNat ⟨s, e, b⟩ := by
  unfold putM at h ⊢
  split at h
  · rename_i hm
    split at h
    · simp at h
    · rename_i hs
      rw [if_pos hm, if_neg hs]
      exact ⟨hm, rfl⟩
  · simp at h
theorem ofRows_inv : ∀ (rs : List T) (before : Int) (cur q : List E), Inv before cur → kindsOkL rs = true → cleanL rs = true → tidyL rs = rs → ofRows before cur rs = some q → Okq q ∧ rowsFrom 0 q = rowsFrom 0 cur ++ rs
  | [], before, cur, q, hI, _, _, _, h => by
    simp only [ofRows, Option.some.injEq] at h
    subst h
    exact ⟨hI.ok, by simp⟩
  | r :: rs, before, cur, q, hI, hk, hc, ht, h => by
    simp only [kindsOkL, Bool.and_eq_true] at hk
    simp only [cleanL, Bool.and_eq_true] at hc
    simp only [tidyL, List.cons.injEq] at ht
    simp only [ofRows] at h
    cases hf : four? r with
    | none => rw [hf] at h; cases h
    | some p =>
      obtain ⟨c, s, e, b⟩ := p
      rw [hf] at h
      simp only at h
      split at h
      · rename_i hcond
        obtain ⟨hb, hp, hlt⟩ := hcond
        obtain ⟨hm, hset⟩ := putM_zero hp
        have hr := four_row hk.1 hc.1 ht.1 hf
        have hok := putM_ok hI.ok c s e (decide (b = 1))
        rw [hset] at h hok
        simp only [mayB, cliB, seqB, errB, Bool.and_eq_true, decide_eq_true_eq] at hm
        obtain ⟨⟨⟨c0, c1⟩, s0, s1⟩, e0', e1'⟩ := hm
        obtain ⟨k, rfl⟩ : ∃ k : Nat, c = (k : Int) := ⟨c.toNat, by omega⟩
        rw [Int.toNat_natCast] at h hok
        have hl := hI.ok.len
        have hI2 : Inv k (cur.set k ⟨s, e, decide (b = 1)⟩) := ⟨hok, by omega, fun j hj hlt2 => by
          rw [set_ne _ (by omega)]
          exact hI.zero j hj (by omega)⟩
        obtain ⟨a1, a2⟩ := ofRows_inv rs k _ q hI2 hk.2 hc.2 ht.2 h
        refine ⟨a1, ?_⟩
        rw [a2, rows_set (by omega) (by show 0 < s; omega) (fun j hj hj2 => hI.zero j (by omega) (by omega)), hr]
        have : b2i (decide (b = 1)) = b := by rcases hb with rfl | rfl <;> rfl
        simp [rowT, this]
      · cases h
theorem ofM_some {s : ByteArray} {q : List E} (h : ofM s.data.toList = some q) : Okq q ∧ s = textB q := by
  unfold ofM at h
  cases ho : onlyRes s.data.toList with
  | error x => rw [ho] at h; cases h
  | ok t =>
    rw [ho] at h
    simp only at h
    split at h
    · rename_i hk
      unfold onlyRes at ho
      cases htk : takeRes s.data.toList with
      | error x => rw [htk] at ho; cases ho
      | ok p =>
        obtain ⟨t', n⟩ := p
        rw [htk] at ho
        simp only at ho
        split at ho
        · cases ho
        · rename_i hn
          obtain rfl : t' = t := by injection ho
          obtain ⟨h1, h2⟩ := takeRes_ok htk
          have hr := rd_inv (by omega) h1
          obtain ⟨k, m, st, l⟩ := t'
          simp only [T.k] at hk
          subst hk
          have hkl := hr.kinds
          have hcl := hr.clean
          have htl := hr.tidy
          rw [tidy_list] at htl
          injection htl with _ g1 g2 g3
          simp only [kindsOk, Bool.or_eq_true, Bool.and_eq_true, decide_eq_true_eq] at hkl
          simp only [cleanT, Bool.and_eq_true] at hcl
          have hI : Inv (-1) q0 := ⟨okq0, by omega, fun j hj _ => by
            rw [List.getElem!_eq_getElem?_getD]
            simp only [q0, List.getElem?_replicate, if_pos hj]
            rfl⟩
          obtain ⟨a1, a2⟩ := ofRows_inv l (-1) q0 q hI (by simpa using hkl) hcl.2 g3 h
          refine ⟨a1, ?_⟩
          have e0 : rowsFrom 0 q0 = [] := rfl
          rw [e0, List.nil_append] at a2
          have hb := hr.bytes
          rw [List.take_of_length_le (by omega), ← g1, ← g2, ← a2] at hb
          refine ByteArray.ext (Array.toList_inj.1 ?_)
          rw [← hb]
          simp [textB, textT]
    · cases h
theorem ofM_text {q : List E} (h : Okq q) : ofM (textB q).data.toList = some q := by
  unfold ofM
  rw [text_only h]
  simp only
  rw [if_pos (show (textT q).k = 3 from rfl)]
  exact ofRows_text h
end Go.Proofs.YtbijaipoifpngaaDoor.Be
