/- What Take and Only return, as one. Conditions: up to 1000000000 bytes. -/
import Derived.Test.YtmepahlmbopacaaDoorBTake
set_option linter.unusedVariables false
set_option linter.unusedSimpArgs false
namespace Go.Proofs.YtmepahlmbopacaaDoor.Be
open Go Go.RowKit

theorem rdNum_errs {r : List UInt8} {x : Int} (h : rdNum r = .error x) : x = 20 ∨ x = 21 := by
  by_cases hm : r.head? = some 45
  · obtain ⟨r', rfl⟩ : ∃ r', r = 45 :: r' := by
      rcases r with _ | ⟨c, r'⟩
      · simp at hm
      · exact ⟨r', by simp at hm; rw [hm]⟩
    rw [rdNum_minus] at h
    split at h
    · cases h; exact .inl rfl
    · rcases hx : dg 9223372036854775808 101 20 true 0 r' with e | ⟨m, k⟩
      · rw [hx] at h
        cases h
        rcases dg_errs _ _ _ _ _ _ _ hx with h1 | h1 | h1 <;> simp [h1]
      · rw [hx] at h; cases h
  · rw [rdNum_plus r hm] at h
    rcases hx : dg 9223372036854775807 101 20 true 0 r with e | ⟨m, k⟩
    · rw [hx] at h
      cases h
      rcases dg_errs _ _ _ _ _ _ _ hx with h1 | h1 | h1 <;> simp [h1]
    · rw [hx] at h; cases h
theorem rdText_errs {bs : List UInt8} {x : Int} (h : rdText bs = .error x) : x = 20 ∨ x = 21 ∨ x = 23 := by
  unfold rdText at h
  rcases hx : dg 65536 58 23 true 0 bs with e | ⟨m, k⟩
  · rw [hx] at h
    cases h
    rcases dg_errs _ _ _ _ _ _ _ hx with h1 | h1 | h1 <;> simp [h1]
  · rw [hx] at h
    simp only at h
    split at h
    · cases h; simp
    · cases h
theorem rd_errs_all (N : Nat) : (∀ (bs : List UInt8) (w : Nat) (x : Int), bs.length ≤ N → rd bs w = .error x → x = 20 ∨ x = 21 ∨ x = 22 ∨ x = 23) ∧ (∀ (bs : List UInt8) (w : Nat) (x : Int), bs.length ≤ N → rdL bs w = .error x → x = 20 ∨ x = 21 ∨ x = 22 ∨ x = 23) := by
  induction N with
  | zero =>
    refine ⟨fun bs w x hl h => ?_, fun bs w x hl h => ?_⟩
    all_goals
      obtain rfl : bs = [] := List.eq_nil_of_length_eq_zero (by omega)
    · rw [rd] at h; cases h; simp
    · rw [rdL] at h; cases h; simp
  | succ N ih =>
    have hV : ∀ (bs : List UInt8) (w : Nat) (x : Int), bs.length ≤ N + 1 → rd bs w = .error x → x = 20 ∨ x = 21 ∨ x = 22 ∨ x = 23 := by
      intro bs w x hl h
      rcases bs with _ | ⟨c, r⟩
      · rw [rd] at h; cases h; simp
      · rw [rd] at h
        split at h
        · have := rdNum_errs h; omega
        · split at h
          · have := rdText_errs h; omega
          · split at h
            · split at h
              · cases h; simp
              · rcases hx : rdL r (w + 1) with e | ⟨ts, k⟩
                · rw [hx] at h
                  cases h
                  exact ih.2 _ _ _ (by simp at hl; omega) hx
                · rw [hx] at h; cases h
            · cases h; simp
    refine ⟨hV, fun bs w x hl h => ?_⟩
    rcases bs with _ | ⟨c, r⟩
    · rw [rdL] at h; cases h; simp
    · rw [rdL] at h
      split at h
      · cases h
      · rcases hx : rd (c :: r) w with e | ⟨t, k⟩
        · rw [hx] at h
          cases h
          exact hV _ _ _ hl hx
        · rw [hx] at h
          simp only at h
          rcases hy : rdL (r.drop (k - 1)) w with e | ⟨us, m⟩
          · rw [hy] at h
            cases h
            exact ih.2 _ _ _ (by simp at hl ⊢; omega) hy
          · rw [hy] at h; cases h
def takeRes (bs : List UInt8) : Except Int (T × Nat) :=
  match rd bs 0 with
  | .error x => .error x
  | .ok (t, n) => if 65536 < n then .error 23 else .ok (t, n)
def onlyRes (bs : List UInt8) : Except Int T :=
  match takeRes bs with
  | .error x => .error x
  | .ok (t, n) => if n < bs.length then .error 20 else .ok t
theorem takeRes_errs {bs : List UInt8} {x : Int} (h : takeRes bs = .error x) : x = 20 ∨ x = 21 ∨ x = 22 ∨ x = 23 := by
  unfold takeRes at h
  rcases hx : rd bs 0 with e | ⟨t, n⟩
  · rw [hx] at h
    cases h
    exact (rd_errs_all bs.length).1 _ _ _ (Nat.le_refl _) hx
  · rw [hx] at h
    simp only at h
    split at h
    · cases h; simp
    · cases h
theorem takeRes_ok {bs : List UInt8} {t : T} {n : Nat} (h : takeRes bs = .ok (t, n)) : rd bs 0 = .ok (t, n) ∧ n ≤ 65536 := by
  unfold takeRes at h
  rcases hx : rd bs 0 with e | ⟨t', n'⟩
  · rw [hx] at h; cases h
  · rw [hx] at h
    simp only at h
    split at h
    · cases h
    · cases h
      exact ⟨rfl, by omega⟩
def TkPost (r : Except Int (T × Nat)) (w : World) (e : Ending) (w' : World) : Prop :=
  match r with
  | .error x => e = .returned (.tuple #[zeroA, .int .i64 0, .int .i64 x]) ∧ Below w.heap.size w w'
  | .ok (t, n) => ∃ v, e = .returned (.tuple #[v, .int .i64 n, .int .i64 0]) ∧ RdA (fun b => w.heap.size ≤ b) w' t v ∧ Below w.heap.size w w'
def OnPost (r : Except Int T) (w : World) (e : Ending) (w' : World) : Prop :=
  match r with
  | .error x => e = .returned (.tuple #[zeroA, .int .i64 x]) ∧ Below w.heap.size w w'
  | .ok t => ∃ v, e = .returned (.tuple #[v, .int .i64 0]) ∧ RdA (fun b => w.heap.size ≤ b) w' t v ∧ Below w.heap.size w w'
theorem take_any (s : ByteArray) (hs : s.size ≤ 1000000000) (w : World) : Calls Tryd.prog 49 #[.string s] w (TkPost (takeRes s.data.toList) w) := by
  unfold takeRes
  rcases hx : rd s.data.toList 0 with x | ⟨t, n⟩
  · exact take_err s hs w x hx
  · by_cases hn : 65536 < n
    · have := take_long s hs w t n hx hn
      simp only [if_pos hn]
      exact this
    · have := take_ok s hs w t n hx (by omega)
      simp only [if_neg hn]
      exact this

theorem OnPost.of_err {r : Except Int T} {x : Int} {w w' : World} {e : Ending} (h : r = .error x) (he : e = .returned (.tuple #[zeroA, .int .i64 x])) (hb : Below w.heap.size w w') : OnPost r w e w' := by
  subst h
  exact ⟨he, hb⟩
theorem OnPost.of_ok {r : Except Int T} {t : T} {v : Value} {w w' : World} {e : Ending} (h : r = .ok t) (he : e = .returned (.tuple #[v, .int .i64 0])) (hr : RdA (fun b => w.heap.size ≤ b) w' t v) (hb : Below w.heap.size w w') : OnPost r w e w' := by
  subst h
  exact ⟨v, he, hr, hb⟩
theorem below_four {w w1 : World} {b : Nat} (h : Below w.heap.size w w1) (hb : w.heap.size ≤ b) (v0 v1 v2 v3 : Value) : Below w.heap.size w ((((w1.setCell ⟨b, 0, none⟩ v0).setCell ⟨b, 1, none⟩ v1).setCell ⟨b, 2, none⟩ v2).setCell ⟨b, 3, none⟩ v3) :=
  (((h.setCell hb v0).setCell hb v1).setCell hb v2).setCell hb v3
theorem Keeps.alloc {ok : Nat → Prop} {a w : World} (h : Keeps ok a w) (o : Obj) : Keeps ok a (w.alloc o) :=
  ⟨by have := h.1; simp; omega, fun b hb hl => by
    rw [Below.heap_alloc w o b (Nat.lt_of_lt_of_le hl h.1)]
    exact h.2 b hb hl⟩
theorem keeps_four {ok : Nat → Prop} {a w1 : World} {b : Nat} (h : Keeps ok a w1) (hb : ¬ ok b) (v0 v1 v2 v3 : Value) : Keeps ok a ((((w1.setCell ⟨b, 0, none⟩ v0).setCell ⟨b, 1, none⟩ v1).setCell ⟨b, 2, none⟩ v2).setCell ⟨b, 3, none⟩ v3) :=
  (((h.setCell ⟨b, 0, none⟩ hb v0).setCell ⟨b, 1, none⟩ hb v1).setCell ⟨b, 2, none⟩ hb v2).setCell ⟨b, 3, none⟩ hb v3
set_option maxRecDepth 100000 in
set_option maxHeartbeats 8000000 in
theorem only_any (s : ByteArray) (hs : s.size ≤ 1000000000) (w : World) : Calls Tryd.prog 33 #[.string s] w (OnPost (onlyRes s.data.toList) w) := by
  have htk := take_any s hs (w.alloc (.cells #[.int .i64 0, .int .i64 0, .string ⟨#[]⟩, .slice none 0 0] 60))
  generalize hres : onlyRes s.data.toList = res
  unfold onlyRes at hres
  rcases hx : takeRes s.data.toList with x | ⟨t, n⟩
  · rw [hx] at htk hres
    have HTK := Lib.hid htk
    have HR : Hid (res = .error x) := Lib.hid hres.symm
    have hxs := takeRes_errs hx
    clear hx htk hres
    have hx0 : (x == 0) = false := by
      rw [Bool.eq_false_iff, Ne, beq_iff_eq]
      omega
    have hxn : (x != 0) = true := by rw [bne, hx0]; rfl
    clear hxs
    go_enter Tryd.func33, Tryd.ntmps33
    go_wp2_with fail
    refine HTK.out.mono ?_
    rintro e w1 ⟨rfl, hb⟩
    obtain ⟨hc, hf⟩ := bcell hb
    have hz : w.heap.size < w1.heap.size := by have := hb.size; simp at this; omega
    unfold zeroA
    go_wp2_with fail
    refine bodyPost_ret (v := .tuple #[zeroA, .int .i64 x]) (by simp [results, Tryd.results33, go_sem, hc, hz, zeroA]) rfl (OnPost.of_err HR.out rfl ?_)
    exact (below_four (below_new hb) (Nat.le_refl _) _ _ _ _).alloc (by simp; omega) _
  · rw [hx] at htk hres
    have hle := (rd_inv (by omega) (takeRes_ok hx).1).le
    simp at hle hres
    have HTK := Lib.hid htk
    clear hx htk
    by_cases hn : n < s.size
    · rw [if_pos hn] at hres
      have HR : Hid (res = .error 20) := Lib.hid hres.symm
      clear hres
      have hnz : (n : Int) < (s.size : Int) := by omega
      go_enter Tryd.func33, Tryd.ntmps33
      go_wp2_with fail
      refine HTK.out.mono ?_
      rintro e w1 ⟨v, rfl, hRA, hb⟩
      obtain ⟨A, c, rfl, _⟩ := hRA.rd
      obtain ⟨hc, hf⟩ := bcell hb
      have hz : w.heap.size < w1.heap.size := by have := hb.size; simp at this; omega
      go_wp2_with fail
      refine bodyPost_ret (v := .tuple #[zeroA, .int .i64 20]) (by simp [results, Tryd.results33, go_sem, hc, hz, zeroA]) rfl (OnPost.of_err HR.out rfl ?_)
      exact (below_four (below_new hb) (Nat.le_refl _) _ _ _ _).alloc (by simp; omega) _
    · rw [if_neg hn] at hres
      have HR : Hid (res = .ok t) := Lib.hid hres.symm
      clear hres
      have hnz : ¬ (n : Int) < (s.size : Int) := by omega
      go_enter Tryd.func33, Tryd.ntmps33
      go_wp2_with fail
      refine HTK.out.mono ?_
      rintro e w1 ⟨v, rfl, hRA, hb⟩
      obtain ⟨A, c, rfl, _⟩ := hRA.rd
      obtain ⟨hc, hf⟩ := bcell hb
      have hz : w.heap.size < w1.heap.size := by have := hb.size; simp at this; omega
      go_wp2_with fail
      refine bodyPost_ret (v := .tuple #[.agg #[.int .i64 t.k, .int .i64 t.n, .string t.s, .slice A t.l.length c], .int .i64 0]) (by simp [results, Tryd.results33, go_sem, hc, hz]) rfl (OnPost.of_ok HR.out rfl ?_ ?_)
      · have h1 := hRA.mono (ok' := fun b => w.heap.size + 1 ≤ b ∧ b < w1.heap.size) (fun b hb hl => by simp at hb; omega)
        refine (h1.keep ?_).mono (fun b hb _ => by omega)
        exact (keeps_four (Keeps.refl _ _) (by simp; omega) _ _ _ _).alloc _
      · exact (below_four (below_new hb) (Nat.le_refl _) _ _ _ _).alloc (by simp; omega) _
end Go.Proofs.YtmepahlmbopacaaDoor.Be
