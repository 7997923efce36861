/- Plain facts on lists of runes and their UTF-8 bytes: no program stands in this text. Conditions: none. -/
import Derived.Lib.ValidLaws
import Derived.Lib.MapLaws
import Derived.Lib.RuneCount
import Derived.Lib.DecodeNEq
set_option linter.unusedVariables false
namespace Go.Proofs.YtdhiipnnmonkoaaDoor
open Go.Lib

/-- A number that is a rune. -/
def isR (r : Int) : Bool := decide (0 ≤ r ∧ r ≤ 1114111 ∧ (r < 55296 ∨ 57343 < r))
/-- The bytes of runes. -/
def enc (rs : List Int) : List UInt8 := rs.flatMap encodeRune
def Good (rs : List Int) : Prop := ∀ r ∈ rs, isR r = true

theorem isR_iff (r : Int) : isR r = true ↔ 0 ≤ r ∧ r ≤ 1114111 ∧ (r < 55296 ∨ 57343 < r) := by simp [isR]
theorem enc_nil : enc [] = [] := rfl
theorem enc_cons (r : Int) (t : List Int) : enc (r :: t) = encodeRune r ++ enc t := by simp [enc]
theorem enc_append (a b : List Int) : enc (a ++ b) = enc a ++ enc b := by simp [enc]
theorem enc_snoc (a : List Int) (r : Int) : enc (a ++ [r]) = enc a ++ encodeRune r := by simp [enc]
theorem Good.nil : Good [] := by intro r h; cases h
theorem Good.append {a b : List Int} (ha : Good a) (hb : Good b) : Good (a ++ b) := by
  intro r h
  rcases List.mem_append.1 h with h | h
  · exact ha r h
  · exact hb r h
theorem Good.left {a b : List Int} (h : Good (a ++ b)) : Good a := fun r hr => h r (by simp [hr])
theorem Good.right {a b : List Int} (h : Good (a ++ b)) : Good b := fun r hr => h r (by simp [hr])
theorem Good.one {r : Int} (h : isR r = true) : Good [r] := by
  intro x hx
  simp at hx
  subst hx
  exact h
theorem Good.head {r : Int} {t : List Int} (h : Good (r :: t)) : isR r = true := h r (by simp)
theorem Good.tail {r : Int} {t : List Int} (h : Good (r :: t)) : Good t := fun x hx => h x (by simp [hx])

theorem encodeRune_len (r : Int) : 1 ≤ (encodeRune r).length ∧ (encodeRune r).length ≤ 4 := by
  have := encodeRuneZ_length r
  simpa [encodeRune] using this
theorem encodeRune_ne (r : Int) : encodeRune r ≠ [] := by
  intro h
  have := (encodeRune_len r).1
  rw [h] at this
  simp at this
theorem enc_len (rs : List Int) : rs.length ≤ (enc rs).length ∧ (enc rs).length ≤ 4 * rs.length := by
  induction rs with
  | nil => simp [enc]
  | cons r t ih =>
    have := encodeRune_len r
    rw [enc_cons]
    simp only [List.length_append, List.length_cons]
    omega

theorem byte_nat (z : Int) (h0 : 0 ≤ z) (h1 : z < 256) : (z.toNat.toUInt8).toNat = z.toNat := by
  simp
  omega

/-- What is encoded is decoded, whatever stands behind it. -/
theorem decodeL_enc (r : Int) (h : isR r = true) (t : List UInt8) : decodeL (encodeRune r ++ t) = (r.toNat, (encodeRune r).length) := by
  rw [isR_iff] at h
  rw [decodeL_N]
  by_cases c1 : r ≤ 127
  · rw [encodeRune, encodeRuneZ_one h.1 c1]
    simp only [List.map_cons, List.map_nil, List.cons_append, List.nil_append, List.getD_cons_zero, List.length_cons, List.length_nil]
    rw [byte_nat r (by omega) (by omega)]
    unfold decodeN
    rw [if_pos (by omega)]
  · by_cases c2 : r ≤ 2047
    · rw [encodeRune, encodeRuneZ_two (by omega) c2]
      simp only [List.map_cons, List.map_nil, List.cons_append, List.nil_append, List.getD_cons_zero, List.getD_cons_succ, List.length_cons, List.length_nil]
      rw [byte_nat _ (by omega) (by omega), byte_nat _ (by omega) (by omega)]
      unfold decodeN
      rw [if_neg (by omega), if_pos (by omega), if_pos (by omega)]
      apply Prod.ext <;> simp only <;> omega
    · by_cases c3 : r ≤ 65535
      · rw [encodeRune, encodeRuneZ_three (by omega)]
        simp only [List.map_cons, List.map_nil, List.cons_append, List.nil_append, List.getD_cons_zero, List.getD_cons_succ, List.length_cons, List.length_nil]
        rw [byte_nat _ (by omega) (by omega), byte_nat _ (by omega) (by omega), byte_nat _ (by omega) (by omega)]
        unfold decodeN
        rw [if_neg (by omega), if_neg (by omega), if_pos (by omega), if_pos (by omega)]
        apply Prod.ext <;> simp only <;> omega
      · rw [encodeRune, encodeRuneZ_four (by omega) (by omega)]
        simp only [List.map_cons, List.map_nil, List.cons_append, List.nil_append, List.getD_cons_zero, List.getD_cons_succ, List.length_cons, List.length_nil]
        rw [byte_nat _ (by omega) (by omega), byte_nat _ (by omega) (by omega), byte_nat _ (by omega) (by omega), byte_nat _ (by omega) (by omega)]
        unfold decodeN
        rw [if_neg (by omega), if_neg (by omega), if_neg (by omega), if_pos (by omega), if_pos (by omega)]
        apply Prod.ext <;> simp only <;> omega

def BadHead (l : List UInt8) : Prop := (decodeL l).1 = 65533 ∧ (decodeL l).2 = 1

/-- Bytes begin with a rune, or with none. -/
theorem decode_cases (l : List UInt8) (hne : l ≠ []) : BadHead l ∨ ∃ r t, isR r = true ∧ l = encodeRune r ++ t := by
  by_cases hv : (decodeL l).1 = 65533 ∧ (decodeL l).2 = 1
  · exact .inl hv
  · refine .inr ⟨((decodeL l).1 : Int), l.drop (decodeL l).2, ?_, ?_⟩
    · rw [isR_iff]
      have k0 := (l.getD 0 0).toNat_lt
      rw [decodeL_N] at hv ⊢
      rcases decodeN_shape l.length (l.getD 0 0).toNat (l.getD 1 0).toNat (l.getD 2 0).toNat (l.getD 3 0).toNat with ⟨c, e⟩ | ⟨c1, c2, c3, cv, e⟩ | ⟨c1, c2, c3, c4, cv, cs, e⟩ | ⟨c1, c2, c3, c4, c5, cv, cw, e⟩ | e
      all_goals rw [e] at hv ⊢
      all_goals dsimp only at *
      all_goals omega
    · rw [encode_decode l hne hv, List.take_append_drop]

/-- A text, or a text and then what begins no rune. -/
theorem text_cases : ∀ (n : Nat) (l : List UInt8), l.length ≤ n → (∃ rs, Good rs ∧ l = enc rs) ∨ ∃ rs t, Good rs ∧ l = enc rs ++ t ∧ t ≠ [] ∧ BadHead t
  | 0, l, h => .inl ⟨[], Good.nil, List.eq_nil_of_length_eq_zero (by omega)⟩
  | n + 1, l, h => by
    by_cases hne : l = []
    · exact .inl ⟨[], Good.nil, hne⟩
    · rcases decode_cases l hne with hb | ⟨r, t, hr, e⟩
      · exact .inr ⟨[], l, Good.nil, rfl, hne, hb⟩
      · have hl := (encodeRune_len r).1
        have : t.length ≤ n := by
          have := congrArg List.length e
          rw [List.length_append] at this
          omega
        rcases text_cases n t this with ⟨rs, hg, e2⟩ | ⟨rs, t2, hg, e2, h2, h3⟩
        · exact .inl ⟨r :: rs, (Good.one hr).append hg, by rw [enc_cons, ← e2, e]⟩
        · exact .inr ⟨r :: rs, t2, (Good.one hr).append hg, by rw [enc_cons, List.append_assoc, ← e2, e], h2, h3⟩
/-- The bytes are no text. -/
def NoText (l : List UInt8) : Prop := ∃ rs t, Good rs ∧ l = enc rs ++ t ∧ t ≠ [] ∧ BadHead t
theorem text_or (l : List UInt8) : (∃ rs, Good rs ∧ l = enc rs) ∨ NoText l := text_cases l.length l (Nat.le_refl _)

theorem validD_rune (r : Int) (h : isR r = true) (t : List UInt8) : validD (encodeRune r ++ t) = validD t := by
  have hne : encodeRune r ++ t ≠ [] := by simp [encodeRune_ne]
  rw [validD_step _ hne, decodeL_enc r h t]
  have hl := encodeRune_len r
  have hr := (isR_iff r).1 h
  rw [if_neg, List.drop_left]
  rintro ⟨h1, h2⟩
  have : r = 65533 := by omega
  subst this
  revert h2
  decide
theorem validD_enc_append (rs : List Int) (h : Good rs) (t : List UInt8) : validD (enc rs ++ t) = validD t := by
  induction rs with
  | nil => rfl
  | cons r rs ih => rw [enc_cons, List.append_assoc, validD_rune r h.head, ih h.tail]
theorem validD_enc (rs : List Int) (h : Good rs) : validD (enc rs) = true := by
  have := validD_enc_append rs h []
  rw [List.append_nil] at this
  rw [this, validD_nil]
theorem validD_no {l : List UInt8} (h : NoText l) : validD l = false := by
  obtain ⟨rs, t, hg, rfl, hne, hb⟩ := h
  rw [validD_enc_append rs hg, validD_step t hne]
  exact if_pos hb

theorem enc_inj : ∀ (a b : List Int), Good a → Good b → enc a = enc b → a = b
  | [], [], _, _, _ => rfl
  | [], r :: t, _, _, h => by
    rw [enc_cons, enc_nil] at h
    have h2 := congrArg List.length h
    have hl := (encodeRune_len r).1
    rw [List.length_append, List.length_nil] at h2
    omega
  | r :: t, [], _, _, h => by
    rw [enc_cons, enc_nil] at h
    have h2 := congrArg List.length h
    have hl := (encodeRune_len r).1
    rw [List.length_append, List.length_nil] at h2
    omega
  | r :: t, r' :: t', ha, hb, h => by
    rw [enc_cons, enc_cons] at h
    have e1 := decodeL_enc r ha.head (enc t)
    rw [h, decodeL_enc r' hb.head (enc t')] at e1
    have h1 := (isR_iff r).1 ha.head
    have h2 := (isR_iff r').1 hb.head
    have e2 : r' = r := by
      have := congrArg Prod.fst e1
      simp only at this
      omega
    subst e2
    rw [enc_inj t t' ha.tail hb.tail (List.append_cancel_left h)]

/-- At place pos of a string: the decode of what is left. -/
theorem decode_at_enc (s : ByteArray) (a : List Int) (r : Int) (t : List UInt8) (hr : isR r = true) (hs : s.data.toList = enc a ++ (encodeRune r ++ t)) :
    Utf8.decode s (enc a).length = (r.toNat, (encodeRune r).length) := by
  rw [← decodeL_drop, hs, List.drop_left, decodeL_enc r hr]
theorem decode_at_bad (s : ByteArray) (a : List Int) (t : List UInt8) (hb : BadHead t) (hs : s.data.toList = enc a ++ t) :
    Utf8.decode s (enc a).length = (65533, 1) := by
  rw [← decodeL_drop, hs, List.drop_left]
  exact Prod.ext hb.1 hb.2

theorem size_list (s : ByteArray) : s.data.toList.length = s.size := by simp

/-- How many runes are counted in a text. -/
theorem runeCountFrom_enc (s : ByteArray) : ∀ (fuel : Nat) (a b : List Int), Good b → s.data.toList = enc a ++ enc b → b.length ≤ fuel → runeCountFrom s fuel (enc a).length = b.length
  | 0, a, b, hb, hs, hf => by
    have : b = [] := List.eq_nil_of_length_eq_zero (by omega)
    subst this
    rfl
  | fuel + 1, a, [], hb, hs, hf => by
    apply runeCountFrom_end
    rw [enc_nil, List.append_nil] at hs
    rw [← size_list, hs]
    omega
  | fuel + 1, a, r :: b, hb, hs, hf => by
    have hl := (encodeRune_len r).1
    have hs2 := hs
    rw [enc_cons] at hs
    have hlt : (enc a).length < s.size := by
      rw [← size_list, hs, List.length_append, List.length_append]
      omega
    unfold runeCountFrom
    rw [if_pos hlt, decode_at_enc s a r (enc b) hb.head hs]
    have e : (enc a).length + (encodeRune r).length = (enc (a ++ [r])).length := by rw [enc_snoc, List.length_append]
    simp only
    rw [e, runeCountFrom_enc s fuel (a ++ [r]) b hb.tail (by rw [hs, enc_snoc, List.append_assoc]) (by simp only [List.length_cons] at hf; omega)]
    simp only [List.length_cons]
    omega
theorem runeCount_enc (s : ByteArray) (rs : List Int) (h : Good rs) (hs : s.data.toList = enc rs) : runeCount s = rs.length := by
  have hl := enc_len rs
  unfold runeCount
  have := runeCountFrom_enc s s.size [] rs h (by rw [hs]; rfl) (by rw [← size_list, hs]; omega)
  simpa [enc_nil] using this
end Go.Proofs.YtdhiipnnmonkoaaDoor
