/- A chart's text, there and back: plain. Conditions: none. -/
import Derived.Test.YtmepahlmbopacaaDoorDRPut
import Derived.Test.YtmepahlmbopacaaDoorBOnly
import Derived.Test.YtmepahlmbopacaaDoorChNext
set_option linter.unusedVariables false
set_option linter.unusedSimpArgs false
set_option maxRecDepth 100000
namespace Go.Proofs.YtmepahlmbopacaaDoor.Ct
open Go Go.RowKit
open Be (T enc encL kindsOk kindsOkL deepT deepL wfT wfL tidy tidyL onlyRes takeRes gdT numT numL RdL Rd RdA ReadsP Keeps)
theorem own_off {w : World} {b p e s : Nat} {A : Option Addr} {n c : Nat} {xs : List Value} (h : w.ownsRow b e s (.slice A n c) n xs) (hp : p + 1 ≤ b) : ∀ ad, A = some ad → ad.block ≠ p := fun ad hA he => by
  subst hA
  have := (h.lt ad.block (by
    rcases h.2 with ⟨h1, _⟩ | ⟨g, cap, cur, h1, _⟩
    · simp at h1
    · injection h1 with h1 _ _
      injection h1 with h1
      subst h1
      rfl)).1
  omega
def cN (n : Int) : T := .mk 1 n .empty []
def cL (l : List Int) : T := .mk 3 0 .empty (l.map cN)
/-- A chart, as a value. -/
def textC (e : Int) (l : List Int) : T := .mk 3 0 .empty [cN e, cL l]
def textB (e : Int) (l : List Int) : ByteArray := ⟨(enc (textC e l)).toArray⟩
def ZN (n : Int) : Prop := 0 ≤ n ∧ n ≤ 9223372036854775807
theorem cN_facts {n : Int} (h : ZN n) : kindsOk (cN n) = true ∧ deepT (cN n) = 0 ∧ wfT (cN n) = true ∧ tidy (cN n) = cN n ∧ (enc (cN n)).length ≤ 22 ∧ numT (cN n) = true := by
  have h1 := h.1
  have h2 := h.2
  refine ⟨by simp [cN, kindsOk], by simp [cN, deepT], ?_, by simp [cN, tidy], ?_, ?_⟩
  · have h3 : (-9223372036854775808 : Int) ≤ n := by omega
    simp [cN, wfT, wfL, h3, h2]
  · have := Be.itoa_len n (by omega) h.2
    simp only [cN, enc, if_true, List.length_cons, List.length_append, List.length_nil]
    omega
  · simp [cN, numT, h1, h2]
theorem cNs_facts : ∀ (l : List Int), (∀ x ∈ l, ZN x) → kindsOkL (l.map cN) = true ∧ deepL (l.map cN) = 0 ∧ wfL (l.map cN) = true ∧ tidyL (l.map cN) = l.map cN ∧ (encL (l.map cN)).length ≤ 22 * l.length ∧ numL (l.map cN) = true
  | [], _ => by simp [kindsOkL, deepL, wfL, tidyL, encL, numL]
  | x :: r, h => by
    obtain ⟨a1, a2, a3, a4, a5, a6⟩ := cNs_facts r (fun y hy => h y (List.mem_cons_of_mem _ hy))
    obtain ⟨b1, b2, b3, b4, b5, b6⟩ := cN_facts (h x (List.mem_cons_self ..))
    refine ⟨by simp [kindsOkL, a1, b1], by simp [deepL, a2, b2], by simp [wfL, a3, b3], by simp [tidyL, a4, b4], ?_, by simp [numL, a6, b6]⟩
    simp only [List.map_cons, encL, List.length_append, List.length_cons]
    omega
theorem cL_facts {l : List Int} (h : ∀ x ∈ l, ZN x) : kindsOk (cL l) = true ∧ deepT (cL l) ≤ 1 ∧ wfT (cL l) = true ∧ tidy (cL l) = cL l ∧ (enc (cL l)).length ≤ 22 * l.length + 2 ∧ numT (cL l) = true := by
  obtain ⟨a1, a2, a3, a4, a5, a6⟩ := cNs_facts l h
  refine ⟨by simp [cL, kindsOk, a1], by simp only [cL, deepT, a2]; simp, by simp [cL, wfT, a3], by simp [cL, tidy, a4], ?_, by simp [cL, numT, a6]⟩
  simp only [cL, Be.enc_list, List.length_cons, List.length_append, List.length_nil]
  omega
theorem may_z {e : Int} {l : List Int} (h : mayC e l = true) : ZN e ∧ (∀ x ∈ l, ZN x) ∧ l.length ≤ 16 := by
  rw [mayC_iff] at h
  exact ⟨⟨by omega, by omega⟩, fun x hx => ⟨(h.2.2 x hx).1, by have := h.2.2 x hx; omega⟩, h.2.1.2⟩
theorem text_facts {e : Int} {l : List Int} (h : mayC e l = true) : kindsOk (textC e l) = true ∧ deepT (textC e l) ≤ 2 ∧ wfT (textC e l) = true ∧ tidy (textC e l) = textC e l ∧ (enc (textC e l)).length ≤ 1000 ∧ numT (textC e l) = true := by
  obtain ⟨z1, z2, z3⟩ := may_z h
  obtain ⟨a1, a2, a3, a4, a5, a6⟩ := cL_facts z2
  obtain ⟨b1, b2, b3, b4, b5, b6⟩ := cN_facts z1
  refine ⟨by simp [textC, kindsOk, kindsOkL, a1, b1], ?_, by simp [textC, wfT, wfL, a3, b3], by simp [textC, tidy, tidyL, a4, b4], ?_, by simp [textC, numT, numL, a6, b6]⟩
  · simp only [textC, deepT, deepL, b2]
    simp
    omega
  · simp only [textC, Be.enc_list, encL, List.length_cons, List.length_append, List.length_nil]
    omega
theorem text_gd {e : Int} {l : List Int} (h : mayC e l = true) : gdT (textC e l) 0 [] = true := by
  obtain ⟨a1, a2, a3, a4, a5, a6⟩ := text_facts h
  exact Be.gdT_iff.2 ⟨a1, by omega, by rw [List.nil_append]; omega⟩
theorem text_only {e : Int} {l : List Int} (h : mayC e l = true) : onlyRes (textB e l).data.toList = .ok (textC e l) := by
  obtain ⟨a1, a2, a3, a4, a5, a6⟩ := text_facts h
  have := Be.rd_enc (textC e l) 0 [] a1 a3 (by omega) (by omega)
  rw [List.append_nil, a4] at this
  unfold onlyRes takeRes textB
  rw [List.toList_toArray, this]
  simp only
  rw [if_neg (by omega)]
  simp
/-- The chart of two values, if its text is s. -/
def pickC (s : ByteArray) (l : List T) : Option (Int × List Int) := match l with
  | [a, b] => if mayC a.n (b.l.map T.n) = true ∧ textB a.n (b.l.map T.n) = s then some (a.n, b.l.map T.n) else none
  | _ => none
def ofC (s : ByteArray) : Option (Int × List Int) := match onlyRes s.data.toList with
  | .error _ => none
  | .ok t => pickC s t.l
theorem ns_cN : ∀ l : List Int, (l.map cN).map T.n = l
  | [] => rfl
  | x :: r => by
    rw [List.map_cons, List.map_cons, ns_cN r]
    rfl
theorem ofC_text {e : Int} {l : List Int} (h : mayC e l = true) : ofC (textB e l) = some (e, l) := by
  unfold ofC
  rw [text_only h]
  show pickC _ [cN e, cL l] = _
  unfold pickC
  have e1 : (cN e).n = e := rfl
  have e2 : (cL l).l.map T.n = l := ns_cN l
  show (if mayC (cN e).n ((cL l).l.map T.n) = true ∧ textB (cN e).n ((cL l).l.map T.n) = textB e l then some ((cN e).n, (cL l).l.map T.n) else none) = _
  rw [e1, e2, if_pos ⟨h, rfl⟩]
theorem only_len {bs : List UInt8} {t : T} (h : onlyRes bs = .ok t) : bs.length ≤ 65536 := by
  unfold onlyRes at h
  cases ht : takeRes bs with
  | error y => rw [ht] at h; cases h
  | ok p =>
    obtain ⟨t', n⟩ := p
    rw [ht] at h
    simp only at h
    obtain ⟨_, h2⟩ := Be.takeRes_ok ht
    split at h
    · cases h
    · omega
theorem only_err {bs : List UInt8} {x : Int} (h : onlyRes bs = .error x) : x ≠ 0 := by
  unfold onlyRes at h
  cases ht : takeRes bs with
  | error y =>
    rw [ht] at h
    simp only [Except.error.injEq] at h
    subst h
    have := Be.takeRes_errs ht
    omega
  | ok p =>
    obtain ⟨t, n⟩ := p
    rw [ht] at h
    simp only at h
    split at h
    · simp only [Except.error.injEq] at h
      omega
    · cases h
theorem ofC_long {s : ByteArray} (h : 65536 < s.size) : ofC s = none := by
  unfold ofC
  cases ho : onlyRes s.data.toList with
  | error x => rfl
  | ok t =>
    have := only_len ho
    simp at this
    omega
theorem ofC_some {s : ByteArray} {p : Int × List Int} (h : ofC s = some p) : mayC p.1 p.2 = true ∧ textB p.1 p.2 = s := by
  unfold ofC at h
  split at h
  · cases h
  · unfold pickC at h
    split at h
    · split at h
      · rename_i hc
        injection h with h
        subst h
        exact hc
      · cases h
    · cases h
/-- How long lists are that were read. -/
theorem encL_ge : ∀ {l : List T}, kindsOkL l = true → l.length ≤ (encL l).length
  | [], _ => Nat.zero_le _
  | t :: r, h => by
    simp only [kindsOkL, Bool.and_eq_true] at h
    obtain ⟨c, q, he, _⟩ := Be.enc_head t h.1
    have := encL_ge h.2
    simp only [encL, List.length_append, List.length_cons, he]
    omega
theorem len_enc {t : T} (hk : kindsOk t = true) (hc : Be.cleanT t = true) : t.l.length ≤ (enc t).length ∧ (t.l ≠ [] → t.k = 3 ∧ kindsOkL t.l = true) ∧ Be.cleanL t.l = true := by
  obtain ⟨k, n, s, l⟩ := t
  simp only [Be.cleanT, Bool.and_eq_true, Bool.or_eq_true, decide_eq_true_eq] at hc
  rcases Be.kinds_cases hk with rfl | rfl | ⟨rfl, hkl⟩
  · have : l = [] := by
      rcases hc.1.2 with h | h
      · cases h
      · simpa using h
    subst this
    exact ⟨by simp [Be.T.l], fun h => absurd rfl h, hc.2⟩
  · have : l = [] := by
      rcases hc.1.2 with h | h
      · cases h
      · simpa using h
    subst this
    exact ⟨by simp [Be.T.l], fun h => absurd rfl h, hc.2⟩
  · refine ⟨?_, fun _ => ⟨rfl, hkl⟩, hc.2⟩
    have := encL_ge hkl
    simp only [Be.enc_list, List.length_cons, List.length_append, Be.T.l]
    omega
theorem mem_kinds : ∀ {l : List T} {u : T}, u ∈ l → kindsOkL l = true → Be.cleanL l = true → kindsOk u = true ∧ Be.cleanT u = true ∧ (enc u).length ≤ (encL l).length
  | t :: r, u, hu, hk, hc => by
    simp only [kindsOkL, Bool.and_eq_true] at hk
    simp only [Be.cleanL, Bool.and_eq_true] at hc
    rcases List.mem_cons.1 hu with rfl | hu
    · refine ⟨hk.1, hc.1, ?_⟩
      simp only [encL, List.length_append]
      omega
    · obtain ⟨a, b, c⟩ := mem_kinds hu hk.2 hc.2
      refine ⟨a, b, ?_⟩
      simp only [encL, List.length_append]
      omega
theorem len_small {bs : List UInt8} {t : T} (h : onlyRes bs = .ok t) : t.l.length ≤ 65536 ∧ ∀ u ∈ t.l, u.l.length ≤ 65536 := by
  have hlen := only_len h
  unfold onlyRes at h
  cases htk : takeRes bs with
  | error x => rw [htk] at h; cases h
  | ok p =>
    obtain ⟨t', n⟩ := p
    rw [htk] at h
    simp only at h
    split at h
    · cases h
    · rename_i hn
      obtain rfl : t' = t := by injection h
      obtain ⟨h1, h2⟩ := Be.takeRes_ok htk
      have hr := Be.rd_inv (by omega) h1
      have hb : (enc t').length ≤ 65536 := by
        rw [hr.bytes, List.length_take]
        omega
      obtain ⟨g1, g2, g3⟩ := len_enc hr.kinds hr.clean
      refine ⟨by omega, fun u hu => ?_⟩
      obtain ⟨hk3, hkl⟩ := g2 (fun e => by rw [e] at hu; simp at hu)
      obtain ⟨a, b, c⟩ := mem_kinds hu hkl g3
      have := (len_enc a b).1
      have hl : (encL t'.l).length ≤ (enc t').length := by
        obtain ⟨k, m, s, l⟩ := t'
        simp only [Be.T.k] at hk3
        subst hk3
        simp only [Be.enc_list, List.length_cons, List.length_append, Be.T.l]
        omega
      omega
end Go.Proofs.YtmepahlmbopacaaDoor.Ct
