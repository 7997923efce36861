/- BTake, BOnly, BRefA, BRefB, BWrB, PoM, PoLen in one text. Conditions: as each part says. -/
import Derived.Test.YtcbkgcnajplagaaDoorJ17
import Derived.Deep.RegionHeld3
import Derived.Test.YtcbkgcnajplagaaDoorJ01
section
set_option linter.unusedVariables false
set_option linter.unusedSimpArgs false
namespace Go.Proofs.YtcbkgcnajplagaaDoor.Be
open Go Go.RowKit

mutual
theorem limT_of : ∀ t : T, kindsOk t = true → tidy t = t → (enc t).length ≤ 1000000000 → limT t = true
  | .mk k n s l, hk, ht, hl => by
    rcases kinds_cases hk with rfl | rfl | ⟨rfl, hkl⟩
    · rw [tidy_int] at ht
      injection ht with _ _ hs hl'
      subst hs hl'
      rfl
    · rw [tidy_text] at ht
      injection ht with _ _ hs hl'
      subst hl'
      rw [enc_text] at hl
      simp at hl
      simp [limT, limL]
      omega
    · rw [tidy_list] at ht
      injection ht with _ _ hs hl'
      subst hs
      rw [enc_list] at hl
      simp [limT, limL_of l hkl hl' (by simp at hl; omega)]
theorem limL_of : ∀ l : List T, kindsOkL l = true → tidyL l = l → (encL l).length ≤ 1000000000 → limL l = true
  | [], _, _, _ => rfl
  | t :: ts, hk, ht, hl => by
    simp only [kindsOkL, Bool.and_eq_true] at hk
    simp only [tidyL, List.cons.injEq] at ht
    rw [encL, List.length_append] at hl
    simp [limL, limT_of t hk.1 ht.1 (by omega), limL_of ts hk.2 ht.2 (by omega)]
end
def zeroA : Value := .agg #[.int .i64 0, .int .i64 0, .string ⟨#[]⟩, .slice none 0 0]
def TakePost (s : ByteArray) (w : World) (e : Ending) (w' : World) : Prop :=
  match rd s.data.toList 0 with
  | .error x => e = .returned (.tuple #[zeroA, .int .i64 0, .int .i64 x]) ∧ Below w.heap.size w w'
  | .ok (t, n) => if 65536 < n then e = .returned (.tuple #[zeroA, .int .i64 0, .int .i64 23]) ∧ Below w.heap.size w w' else ∃ v, e = .returned (.tuple #[v, .int .i64 n, .int .i64 0]) ∧ RdA (fun b => w.heap.size ≤ b) w' t v ∧ Below w.heap.size w w'
theorem below_grown_new {w w1 w' : World} {R : Nat} (h : Below w.heap.size w w1) (hg : w1.grownBy w' (some R)) (hR : w.heap.size ≤ R) : Below w.heap.size w w' := h.grown hg h.size (fun k hk => by injection hk; omega)
/-- The two blocks that Take begins with. -/
theorem take_start (s : ByteArray) (w : World) : ((w.alloc (.cells #[.int .i64 0, .int .i64 0, .string ⟨#[]⟩, .slice none 0 0] 47)).alloc (.cells #[.string s, .int .i64 0, .int .i64 0] 114)).heap[w.heap.size]? = some (.cells #[.int .i64 0, .int .i64 0, .string ⟨#[]⟩, .slice none 0 0] 47 (0, 0)) ∧
    IsRd ((w.alloc (.cells #[.int .i64 0, .int .i64 0, .string ⟨#[]⟩, .slice none 0 0] 47)).alloc (.cells #[.string s, .int .i64 0, .int .i64 0] 114)) (w.heap.size + 1) s 0 0 ∧
    Below w.heap.size w ((w.alloc (.cells #[.int .i64 0, .int .i64 0, .string ⟨#[]⟩, .slice none 0 0] 47)).alloc (.cells #[.string s, .int .i64 0, .int .i64 0] 114)) ∧
    ((w.alloc (.cells #[.int .i64 0, .int .i64 0, .string ⟨#[]⟩, .slice none 0 0] 47)).alloc (.cells #[.string s, .int .i64 0, .int .i64 0] 114)).heap.size = w.heap.size + 2 := by
  refine ⟨?_, ?_, ((Below.refl _ _).alloc (Nat.le_refl _) _).alloc (by simp) _, by simp⟩
  · rw [Below.heap_alloc _ _ _ (by simp)]
    exact heap_alloc_new w _
  · have := heap_alloc_new (w.alloc (.cells #[.int .i64 0, .int .i64 0, .string ⟨#[]⟩, .slice none 0 0] 47)) (.cells #[.string s, .int .i64 0, .int .i64 0] 114)
    simpa [IsRd] using this
set_option maxRecDepth 100000 in
set_option maxHeartbeats 8000000 in
theorem take_err (s : ByteArray) (hs : s.size ≤ 1000000000) (w : World) (x : Int) (hx : rd s.data.toList 0 = .error x) : Calls Tryd.prog 67 #[.string s] w fun e w' => e = .returned (.tuple #[zeroA, .int .i64 0, .int .i64 x]) ∧ Below w.heap.size w w' := by
  have HX := Lib.hid hx
  clear hx
  obtain ⟨hblk, hI, hb0, hsz⟩ := take_start s w
  go_enter Tryd.func67, Tryd.ntmps67
  go_wp2_with fail
  generalize (w.alloc (.cells #[.int .i64 0, .int .i64 0, .string ⟨#[]⟩, .slice none 0 0] 47)).alloc (.cells #[.string s, .int .i64 0, .int .i64 0] 114) = w1 at hblk hI hb0 hsz
  have HB := Lib.hid hblk
  have HS := Lib.hid hsz
  clear hblk hsz
  refine (value_any (w.heap.size + 1) s hs 0 0 _ hI (by omega)).mono ?_
  rw [List.drop_zero, HX.out]
  rintro e w3 ⟨rfl, hg4⟩
  have as0 := as_27_27 (.int .i64 x) w3
  have hblk3 := (hg4.block w.heap.size (by have := HS.out; omega) (by simp)).trans HB.out
  obtain ⟨e0, e1, e2, e3, ef⟩ := val_block hblk3
  have hb3 := below_grown_new hb0 hg4 (by omega)
  have hz3 : w.heap.size < w3.heap.size := by have := hg4.size; have := HS.out; omega
  clear hblk3
  go_wp2_with fail
  refine bodyPost_ret (v := .tuple #[zeroA, .int .i64 0, .int .i64 x]) (by simp [results, Tryd.results67, go_sem, e0, e1, e2, e3, hz3, zeroA]) rfl ⟨rfl, ?_⟩
  exact (((hb3.setCell (Nat.le_refl _) _).setCell (Nat.le_refl _) _).setCell (Nat.le_refl _) _).setCell (Nat.le_refl _) _
set_option maxRecDepth 100000 in
set_option maxHeartbeats 8000000 in
theorem take_long (s : ByteArray) (hs : s.size ≤ 1000000000) (w : World) (t : T) (n : Nat) (hx : rd s.data.toList 0 = .ok (t, n)) (hn : 65536 < n) : Calls Tryd.prog 67 #[.string s] w fun e w' => e = .returned (.tuple #[zeroA, .int .i64 0, .int .i64 23]) ∧ Below w.heap.size w w' := by
  have hle := (rd_inv (by omega) hx).le
  simp at hle
  have HX := Lib.hid hx
  clear hx
  obtain ⟨hblk, hI, hb0, hsz⟩ := take_start s w
  go_enter Tryd.func67, Tryd.ntmps67
  go_wp2_with fail
  generalize (w.alloc (.cells #[.int .i64 0, .int .i64 0, .string ⟨#[]⟩, .slice none 0 0] 47)).alloc (.cells #[.string s, .int .i64 0, .int .i64 0] 114) = w1 at hblk hI hb0 hsz
  have HB := Lib.hid hblk
  have HS := Lib.hid hsz
  clear hblk hsz
  refine (value_any (w.heap.size + 1) s hs 0 0 _ hI (by omega)).mono ?_
  rw [List.drop_zero, HX.out]
  rintro e w3 ⟨v, rfl, hI3, hg4, hne, hv⟩
  obtain ⟨ky, y', rfl, has⟩ := hne.form
  have as0 := has w3
  have hblk3 := (hg4.block w.heap.size (by have := HS.out; omega) (by simp)).trans HB.out
  obtain ⟨e0, e1, e2, e3, ef⟩ := val_block hblk3
  have hb3 := below_grown_new hb0 hg4 (by omega)
  have hz3 : w.heap.size < w3.heap.size := by have := hg4.size; have := HS.out; omega
  rw [Nat.zero_add] at hI3 hv
  have c1 := hI3.c1
  have hnz : (65536 : Int) < (n : Int) := by omega
  clear hblk3 has hne
  go_wp2_with fail
  refine bodyPost_ret (v := .tuple #[zeroA, .int .i64 0, .int .i64 23]) (by simp [results, Tryd.results67, go_sem, e0, e1, e2, e3, hz3, zeroA]) rfl ⟨rfl, ?_⟩
  exact (((hb3.setCell (Nat.le_refl _) _).setCell (Nat.le_refl _) _).setCell (Nat.le_refl _) _).setCell (Nat.le_refl _) _
def VTPost (t : T) (w : World) (e : Ending) (w' : World) : Prop := ∃ A c, e = .returned (.agg #[.int .i64 t.k, .int .i64 t.n, .string t.s, .slice A t.l.length c]) ∧ RdA (fun b => w.heap.size ≤ b) w' t (.agg #[.int .i64 t.k, .int .i64 t.n, .string t.s, .slice A t.l.length c]) ∧ Below w.heap.size w w'
theorem valueOf_tidy (t : T) (ht : tidy t = t) (v : Value) (ok : Nat → Prop) (w : World) (hv : Hv ok w t v) (hl : limT t = true) : Calls Tryd.prog 76 #[v] w (VTPost t w) :=
  (valueOf_any t v ok w hv hl).mono fun e w' ⟨v', he, hr, hb⟩ => by
    rw [ht] at hr
    obtain ⟨A, c, rfl, _⟩ := hr.rd
    exact ⟨A, c, he, hr, hb⟩
set_option maxRecDepth 100000 in
set_option maxHeartbeats 8000000 in
theorem take_ok (s : ByteArray) (hs : s.size ≤ 1000000000) (w : World) (t : T) (n : Nat) (hx : rd s.data.toList 0 = .ok (t, n)) (hn : n ≤ 65536) : Calls Tryd.prog 67 #[.string s] w fun e w' => ∃ v, e = .returned (.tuple #[v, .int .i64 n, .int .i64 0]) ∧ RdA (fun b => w.heap.size ≤ b) w' t v ∧ Below w.heap.size w w' := by
  have hinv := rd_inv (by omega) hx
  have hle := hinv.le
  simp at hle
  have hlim : limT t = true := limT_of t hinv.kinds hinv.tidy (by rw [hinv.bytes]; simp; omega)
  have HT := Lib.hid hinv.tidy
  have HX := Lib.hid hx
  clear hx hinv
  obtain ⟨hblk, hI, hb0, hsz⟩ := take_start s w
  go_enter Tryd.func67, Tryd.ntmps67
  go_wp2_with fail
  generalize (w.alloc (.cells #[.int .i64 0, .int .i64 0, .string ⟨#[]⟩, .slice none 0 0] 47)).alloc (.cells #[.string s, .int .i64 0, .int .i64 0] 114) = w1 at hblk hI hb0 hsz
  have HB := Lib.hid hblk
  have HS := Lib.hid hsz
  clear hblk hsz
  refine (value_any (w.heap.size + 1) s hs 0 0 _ hI (by omega)).mono ?_
  rw [List.drop_zero, HX.out]
  rintro e w3 ⟨v, rfl, hI3, hg4, hne, hv⟩
  obtain ⟨ky, y', rfl, has⟩ := hne.form
  have as0 := has w3
  have hblk3 := (hg4.block w.heap.size (by have := HS.out; omega) (by simp)).trans HB.out
  have hb3 := below_grown_new hb0 hg4 (by omega)
  have hz3 : w.heap.size + 1 < w3.heap.size := by have := hg4.size; have := HS.out; omega
  rw [Nat.zero_add] at hI3 hv
  have hv3 := hv (by omega)
  have c1 := hI3.c1
  have hnz : ¬ (65536 : Int) < (n : Int) := by omega
  have HB3 := Lib.hid hblk3
  clear hblk3 has hne hv
  go_wp2_with fail
  have hvd := Hv.keep (w := w3) (w' := w3.drew) ⟨Nat.le_refl _, fun _ _ _ => rfl⟩ _ _ hv3
  go_region_held3 (fun w' => w'.cell? ⟨w.heap.size + 1, 1, none⟩ = some (.int .i64 (n : Int)))
    (first | go_keep | (rw [hb4.cell (by simp; omega)]; assumption))
    ((go_at_call 76; refine (valueOf_tidy t HT.out _ _ _ hvd hlim).mono ?_; rintro e w4 ⟨A', c', rfl, hRA, hb4⟩; obtain ⟨e0, e1, e2, e3, ef⟩ := val_block ((hb4.block w.heap.size (by simp; omega)).trans HB3.out); have hz4 : w.heap.size + 1 < w4.heap.size := (by have := hb4.size; simp at this; omega)))
  go_wp2_with fail
  have hb4' : Below w3.heap.size w3 w4 := (Below.refl w3.heap.size w3).drew.trans hb4
  have hb04 : Below w.heap.size w w4 := hb3.trans (hb4'.mono (by omega))
  refine bodyPost_ret (v := .tuple #[.agg #[.int .i64 t.k, .int .i64 t.n, .string t.s, .slice A' t.l.length c'], .int .i64 n, .int .i64 0]) (by simp [results, Tryd.results67, go_sem, e0, e1, e2, e3, hz4, show w.heap.size < w4.heap.size by omega]) rfl ⟨_, rfl, ?_, ?_⟩
  · have h1 := hRA.mono (ok' := fun b => w.heap.size + 1 ≤ b) (fun b hb _ => by simp at hb; omega)
    refine (h1.keep ((((Keeps.setCell (Keeps.refl _ _) ⟨w.heap.size, 0, none⟩ ?_ _).setCell ⟨w.heap.size, 1, none⟩ ?_ _).setCell ⟨w.heap.size, 2, none⟩ ?_ _).setCell ⟨w.heap.size, 3, none⟩ ?_ _)).mono (fun b hb _ => by omega)
    all_goals simp
  · exact (((hb04.setCell (Nat.le_refl _) _).setCell (Nat.le_refl _) _).setCell (Nat.le_refl _) _).setCell (Nat.le_refl _) _
end Go.Proofs.YtcbkgcnajplagaaDoor.Be
end
section
set_option linter.unusedVariables false
set_option linter.unusedSimpArgs false
namespace Go.Proofs.YtcbkgcnajplagaaDoor.Be
open Go Go.RowKit

theorem rdNum_errs {r : List UInt8} {x : Int} (h : rdNum r = .error x) : x = 20 ∨ x = 21 := by
  by_cases hm : r.head? = some 45
  · obtain ⟨r', rfl⟩ : ∃ r', r = 45 :: r' := by
      rcases r with _ | ⟨c, r'⟩
      · simp at hm
      · exact ⟨r', by simp at hm; rw [hm]⟩
    rw [rdNum_minus] at h
    split at h
    · cases h; exact .inl rfl
    · rcases hx : dg 9223372036854775808 101 20 true 0 r' with e | ⟨m, k⟩
      · rw [hx] at h
        cases h
        rcases dg_errs _ _ _ _ _ _ _ hx with h1 | h1 | h1 <;> simp [h1]
      · rw [hx] at h; cases h
  · rw [rdNum_plus r hm] at h
    rcases hx : dg 9223372036854775807 101 20 true 0 r with e | ⟨m, k⟩
    · rw [hx] at h
      cases h
      rcases dg_errs _ _ _ _ _ _ _ hx with h1 | h1 | h1 <;> simp [h1]
    · rw [hx] at h; cases h
theorem rdText_errs {bs : List UInt8} {x : Int} (h : rdText bs = .error x) : x = 20 ∨ x = 21 ∨ x = 23 := by
  unfold rdText at h
  rcases hx : dg 65536 58 23 true 0 bs with e | ⟨m, k⟩
  · rw [hx] at h
    cases h
    rcases dg_errs _ _ _ _ _ _ _ hx with h1 | h1 | h1 <;> simp [h1]
  · rw [hx] at h
    simp only at h
    split at h
    · cases h; simp
    · cases h
theorem rd_errs_all (N : Nat) : (∀ (bs : List UInt8) (w : Nat) (x : Int), bs.length ≤ N → rd bs w = .error x → x = 20 ∨ x = 21 ∨ x = 22 ∨ x = 23) ∧ (∀ (bs : List UInt8) (w : Nat) (x : Int), bs.length ≤ N → rdL bs w = .error x → x = 20 ∨ x = 21 ∨ x = 22 ∨ x = 23) := by
  induction N with
  | zero =>
    refine ⟨fun bs w x hl h => ?_, fun bs w x hl h => ?_⟩
    all_goals
      obtain rfl : bs = [] := List.eq_nil_of_length_eq_zero (by omega)
    · rw [rd] at h; cases h; simp
    · rw [rdL] at h; cases h; simp
  | succ N ih =>
    have hV : ∀ (bs : List UInt8) (w : Nat) (x : Int), bs.length ≤ N + 1 → rd bs w = .error x → x = 20 ∨ x = 21 ∨ x = 22 ∨ x = 23 := by
      intro bs w x hl h
      rcases bs with _ | ⟨c, r⟩
      · rw [rd] at h; cases h; simp
      · rw [rd] at h
        split at h
        · have := rdNum_errs h; omega
        · split at h
          · have := rdText_errs h; omega
          · split at h
            · split at h
              · cases h; simp
              · rcases hx : rdL r (w + 1) with e | ⟨ts, k⟩
                · rw [hx] at h
                  cases h
                  exact ih.2 _ _ _ (by simp at hl; omega) hx
                · rw [hx] at h; cases h
            · cases h; simp
    refine ⟨hV, fun bs w x hl h => ?_⟩
    rcases bs with _ | ⟨c, r⟩
    · rw [rdL] at h; cases h; simp
    · rw [rdL] at h
      split at h
      · cases h
      · rcases hx : rd (c :: r) w with e | ⟨t, k⟩
        · rw [hx] at h
          cases h
          exact hV _ _ _ hl hx
        · rw [hx] at h
          simp only at h
          rcases hy : rdL (r.drop (k - 1)) w with e | ⟨us, m⟩
          · rw [hy] at h
            cases h
            exact ih.2 _ _ _ (by simp at hl ⊢; omega) hy
          · rw [hy] at h; cases h
def takeRes (bs : List UInt8) : Except Int (T × Nat) :=
  match rd bs 0 with
  | .error x => .error x
  | .ok (t, n) => if 65536 < n then .error 23 else .ok (t, n)
def onlyRes (bs : List UInt8) : Except Int T :=
  match takeRes bs with
  | .error x => .error x
  | .ok (t, n) => if n < bs.length then .error 20 else .ok t
theorem takeRes_errs {bs : List UInt8} {x : Int} (h : takeRes bs = .error x) : x = 20 ∨ x = 21 ∨ x = 22 ∨ x = 23 := by
  unfold takeRes at h
  rcases hx : rd bs 0 with e | ⟨t, n⟩
  · rw [hx] at h
    cases h
    exact (rd_errs_all bs.length).1 _ _ _ (Nat.le_refl _) hx
  · rw [hx] at h
    simp only at h
    split at h
    · cases h; simp
    · cases h
theorem takeRes_ok {bs : List UInt8} {t : T} {n : Nat} (h : takeRes bs = .ok (t, n)) : rd bs 0 = .ok (t, n) ∧ n ≤ 65536 := by
  unfold takeRes at h
  rcases hx : rd bs 0 with e | ⟨t', n'⟩
  · rw [hx] at h; cases h
  · rw [hx] at h
    simp only at h
    split at h
    · cases h
    · cases h
      exact ⟨rfl, by omega⟩
def TkPost (r : Except Int (T × Nat)) (w : World) (e : Ending) (w' : World) : Prop :=
  match r with
  | .error x => e = .returned (.tuple #[zeroA, .int .i64 0, .int .i64 x]) ∧ Below w.heap.size w w'
  | .ok (t, n) => ∃ v, e = .returned (.tuple #[v, .int .i64 n, .int .i64 0]) ∧ RdA (fun b => w.heap.size ≤ b) w' t v ∧ Below w.heap.size w w'
def OnPost (r : Except Int T) (w : World) (e : Ending) (w' : World) : Prop :=
  match r with
  | .error x => e = .returned (.tuple #[zeroA, .int .i64 x]) ∧ Below w.heap.size w w'
  | .ok t => ∃ v, e = .returned (.tuple #[v, .int .i64 0]) ∧ RdA (fun b => w.heap.size ≤ b) w' t v ∧ Below w.heap.size w w'
theorem take_any (s : ByteArray) (hs : s.size ≤ 1000000000) (w : World) : Calls Tryd.prog 67 #[.string s] w (TkPost (takeRes s.data.toList) w) := by
  unfold takeRes
  rcases hx : rd s.data.toList 0 with x | ⟨t, n⟩
  · exact take_err s hs w x hx
  · by_cases hn : 65536 < n
    · have := take_long s hs w t n hx hn
      simp only [if_pos hn]
      exact this
    · have := take_ok s hs w t n hx (by omega)
      simp only [if_neg hn]
      exact this

theorem OnPost.of_err {r : Except Int T} {x : Int} {w w' : World} {e : Ending} (h : r = .error x) (he : e = .returned (.tuple #[zeroA, .int .i64 x])) (hb : Below w.heap.size w w') : OnPost r w e w' := by
  subst h
  exact ⟨he, hb⟩
theorem OnPost.of_ok {r : Except Int T} {t : T} {v : Value} {w w' : World} {e : Ending} (h : r = .ok t) (he : e = .returned (.tuple #[v, .int .i64 0])) (hr : RdA (fun b => w.heap.size ≤ b) w' t v) (hb : Below w.heap.size w w') : OnPost r w e w' := by
  subst h
  exact ⟨v, he, hr, hb⟩
theorem below_four {w w1 : World} {b : Nat} (h : Below w.heap.size w w1) (hb : w.heap.size ≤ b) (v0 v1 v2 v3 : Value) : Below w.heap.size w ((((w1.setCell ⟨b, 0, none⟩ v0).setCell ⟨b, 1, none⟩ v1).setCell ⟨b, 2, none⟩ v2).setCell ⟨b, 3, none⟩ v3) :=
  (((h.setCell hb v0).setCell hb v1).setCell hb v2).setCell hb v3
theorem Keeps.alloc {ok : Nat → Prop} {a w : World} (h : Keeps ok a w) (o : Obj) : Keeps ok a (w.alloc o) :=
  ⟨by have := h.1; simp; omega, fun b hb hl => by
    rw [Below.heap_alloc w o b (Nat.lt_of_lt_of_le hl h.1)]
    exact h.2 b hb hl⟩
theorem keeps_four {ok : Nat → Prop} {a w1 : World} {b : Nat} (h : Keeps ok a w1) (hb : ¬ ok b) (v0 v1 v2 v3 : Value) : Keeps ok a ((((w1.setCell ⟨b, 0, none⟩ v0).setCell ⟨b, 1, none⟩ v1).setCell ⟨b, 2, none⟩ v2).setCell ⟨b, 3, none⟩ v3) :=
  (((h.setCell ⟨b, 0, none⟩ hb v0).setCell ⟨b, 1, none⟩ hb v1).setCell ⟨b, 2, none⟩ hb v2).setCell ⟨b, 3, none⟩ hb v3
set_option maxRecDepth 100000 in
set_option maxHeartbeats 8000000 in
theorem only_any (s : ByteArray) (hs : s.size ≤ 1000000000) (w : World) : Calls Tryd.prog 51 #[.string s] w (OnPost (onlyRes s.data.toList) w) := by
  have htk := take_any s hs (w.alloc (.cells #[.int .i64 0, .int .i64 0, .string ⟨#[]⟩, .slice none 0 0] 47))
  generalize hres : onlyRes s.data.toList = res
  unfold onlyRes at hres
  rcases hx : takeRes s.data.toList with x | ⟨t, n⟩
  · rw [hx] at htk hres
    have HTK := Lib.hid htk
    have HR : Hid (res = .error x) := Lib.hid hres.symm
    have hxs := takeRes_errs hx
    clear hx htk hres
    have hx0 : (x == 0) = false := by
      rw [Bool.eq_false_iff, Ne, beq_iff_eq]
      omega
    have hxn : (x != 0) = true := by rw [bne, hx0]; rfl
    clear hxs
    go_enter Tryd.func51, Tryd.ntmps51
    go_wp2_with fail
    refine HTK.out.mono ?_
    rintro e w1 ⟨rfl, hb⟩
    obtain ⟨hc, hf⟩ := bcell hb
    have hz : w.heap.size < w1.heap.size := by have := hb.size; simp at this; omega
    unfold zeroA
    go_wp2_with fail
    refine bodyPost_ret (v := .tuple #[zeroA, .int .i64 x]) (by simp [results, Tryd.results51, go_sem, hc, hz, zeroA]) rfl (OnPost.of_err HR.out rfl ?_)
    exact (below_four (below_new hb) (Nat.le_refl _) _ _ _ _).alloc (by simp; omega) _
  · rw [hx] at htk hres
    have hle := (rd_inv (by omega) (takeRes_ok hx).1).le
    simp at hle hres
    have HTK := Lib.hid htk
    clear hx htk
    by_cases hn : n < s.size
    · rw [if_pos hn] at hres
      have HR : Hid (res = .error 20) := Lib.hid hres.symm
      clear hres
      have hnz : (n : Int) < (s.size : Int) := by omega
      go_enter Tryd.func51, Tryd.ntmps51
      go_wp2_with fail
      refine HTK.out.mono ?_
      rintro e w1 ⟨v, rfl, hRA, hb⟩
      obtain ⟨A, c, rfl, _⟩ := hRA.rd
      obtain ⟨hc, hf⟩ := bcell hb
      have hz : w.heap.size < w1.heap.size := by have := hb.size; simp at this; omega
      go_wp2_with fail
      refine bodyPost_ret (v := .tuple #[zeroA, .int .i64 20]) (by simp [results, Tryd.results51, go_sem, hc, hz, zeroA]) rfl (OnPost.of_err HR.out rfl ?_)
      exact (below_four (below_new hb) (Nat.le_refl _) _ _ _ _).alloc (by simp; omega) _
    · rw [if_neg hn] at hres
      have HR : Hid (res = .ok t) := Lib.hid hres.symm
      clear hres
      have hnz : ¬ (n : Int) < (s.size : Int) := by omega
      go_enter Tryd.func51, Tryd.ntmps51
      go_wp2_with fail
      refine HTK.out.mono ?_
      rintro e w1 ⟨v, rfl, hRA, hb⟩
      obtain ⟨A, c, rfl, _⟩ := hRA.rd
      obtain ⟨hc, hf⟩ := bcell hb
      have hz : w.heap.size < w1.heap.size := by have := hb.size; simp at this; omega
      go_wp2_with fail
      refine bodyPost_ret (v := .tuple #[.agg #[.int .i64 t.k, .int .i64 t.n, .string t.s, .slice A t.l.length c], .int .i64 0]) (by simp [results, Tryd.results51, go_sem, hc, hz]) rfl (OnPost.of_ok HR.out rfl ?_ ?_)
      · have h1 := hRA.mono (ok' := fun b => w.heap.size + 1 ≤ b ∧ b < w1.heap.size) (fun b hb hl => by simp at hb; omega)
        refine (h1.keep ?_).mono (fun b hb _ => by omega)
        exact (keeps_four (Keeps.refl _ _) (by simp; omega) _ _ _ _).alloc _
      · exact (below_four (below_new hb) (Nat.le_refl _) _ _ _ _).alloc (by simp; omega) _
end Go.Proofs.YtcbkgcnajplagaaDoor.Be
end
section
set_option linter.unusedVariables false
set_option linter.unusedSimpArgs false
namespace Go.Proofs.YtcbkgcnajplagaaDoor.Be
open Go Go.RowKit

/-- It returns v, and what was there is as it was. -/
def Gives (v : Value) (w : World) (e : Ending) (w' : World) : Prop := e = .returned v ∧ Below w.heap.size w w'
/-- An element of a list that reads. -/
theorem elem_at {ok : Nat → Prop} {w : World} {A : Option Addr} {l : List T} {xs : List Value} {k : Nat} (hr : ReadsP ok w 4 A l.length xs) (hl : RdL ok w l xs) (hk : k < l.length) :
    ∃ b o A' c', A = some ⟨b, o, none⟩ ∧ ok b ∧ b < w.heap.size ∧ w.frozen? ⟨b, o, none⟩ = false ∧ RdA ok w l[k] (.agg #[.int .i64 l[k].k, .int .i64 l[k].n, .string l[k].s, .slice A' l[k].l.length c']) ∧
      w.cell? ⟨b, o + k * 4, none⟩ = some (.int .i64 l[k].k) ∧ w.cell? ⟨b, o + k * 4 + 1, none⟩ = some (.int .i64 l[k].n) ∧ w.cell? ⟨b, o + k * 4 + 2, none⟩ = some (.string l[k].s) ∧ w.cell? ⟨b, o + k * 4 + 3, none⟩ = some (.slice A' l[k].l.length c') := by
  obtain ⟨ad, rfl, hb, hlt, hf, hc⟩ := hr.at_ (by omega)
  obtain ⟨cs, hcs, hx⟩ := hl.get hk
  generalize l[k] = u at hcs
  obtain ⟨ku, nu, su, lu⟩ := u
  rw [Rd] at hcs
  obtain ⟨A', c', ys, rfl, h2, h3, h4, h5, h6⟩ := hcs
  have hsp : ad = ⟨ad.block, ad.off, none⟩ := by
    obtain ⟨u0, hu0⟩ : ∃ u0, xs[0]? = some u0 := by
      have := hr.len
      exact ⟨xs[0]'(by omega), List.getElem?_eq_getElem (by omega)⟩
    have h0 := hc 0 u0 hu0
    obtain ⟨ab, ao, asp⟩ := ad
    cases asp with
    | none => rfl
    | some z => simp [World.cell?, Addr.add] at h0; split at h0 <;> cases h0
  obtain ⟨ab, ao, asp⟩ := ad
  injection hsp with _ _ hs
  subst hs
  have hcell : ∀ j, j < 4 → ∀ u, ([.int .i64 ku, .int .i64 nu, .string su, .slice A' lu.length c'] : List Value)[j]? = some u → w.cell? ⟨ab, ao + (k * 4 + j), none⟩ = some u := by
    intro j hj u hu
    have := hc (k * 4 + j) u (by rw [hx j hj]; exact hu)
    rwa [add_flat] at this
  refine ⟨ab, ao, A', c', rfl, hb, hlt, hf, ⟨A', c', ys, rfl, h2, h3, h4, h5, h6⟩, ?_, ?_, ?_, ?_⟩
  · exact hcell 0 (by omega) _ rfl
  · rw [Nat.add_assoc]; exact hcell 1 (by omega) _ rfl
  · rw [Nat.add_assoc]; exact hcell 2 (by omega) _ rfl
  · rw [Nat.add_assoc]; exact hcell 3 (by omega) _ rfl

theorem box_start (w : World) (c0 c1 c2 c3 : Value) : (w.alloc (.cells #[c0, c1, c2, c3] 47)).heap[w.heap.size]? = some (.cells #[c0, c1, c2, c3] 47 (0, 0)) ∧ Below w.heap.size w (w.alloc (.cells #[c0, c1, c2, c3] 47)) ∧ (w.alloc (.cells #[c0, c1, c2, c3] 47)).heap.size = w.heap.size + 1 :=
  ⟨heap_alloc_new w _, (Below.refl _ _).alloc (Nat.le_refl _) _, by simp⟩
end Go.Proofs.YtcbkgcnajplagaaDoor.Be
end
section
set_option linter.unusedVariables false
set_option linter.unusedSimpArgs false
namespace Go.Proofs.YtcbkgcnajplagaaDoor.Be
open Go Go.RowKit

theorem sameL_step (l m : List T) (k : Nat) (hl : k < l.length) (hm : k < m.length) : sameL (l.drop k) (m.drop k) = (sameT l[k] m[k] && sameL (l.drop (k + 1)) (m.drop (k + 1))) := by
  rw [List.drop_eq_getElem_cons hl, List.drop_eq_getElem_cons hm, sameL]
theorem sameL_end (l m : List T) (k : Nat) (hl : l.length ≤ k) (hm : m.length ≤ k) : sameL (l.drop k) (m.drop k) = true := by
  rw [List.drop_eq_nil_of_le hl, List.drop_eq_nil_of_le hm, sameL]
  rfl
theorem sameL_len : ∀ l m : List T, l.length ≠ m.length → sameL l m = false
  | [], [], h => by simp at h
  | [], u :: us, _ => by simp [sameL]
  | t :: ts, [], _ => by simp [sameL]
  | t :: ts, u :: us, h => by
    rw [sameL, sameL_len ts us (by simpa using h), Bool.and_false]

theorem str_eq_dec (s s' : ByteArray) : (s.toList == s'.toList) = decide (s = s') := by
  rw [Bool.eq_iff_iff, beq_iff_eq, decide_eq_true_iff, Lib.toList_data, Lib.toList_data]
  constructor
  · intro h
    exact ByteArray.ext (Array.toList_inj.1 h)
  · rintro rfl; rfl
end Go.Proofs.YtcbkgcnajplagaaDoor.Be
end
section
set_option linter.unusedVariables false
set_option linter.unusedSimpArgs false
namespace Go.Proofs.YtcbkgcnajplagaaDoor.Be
open Go Go.RowKit

theorem encL_append : ∀ l m : List T, encL (l ++ m) = encL l ++ encL m
  | [], m => rfl
  | t :: ts, m => by simp [encL, encL_append ts m]
theorem encL_take (l : List T) (k : Nat) (hk : k < l.length) : encL (l.take (k + 1)) = encL (l.take k) ++ enc l[k] := by
  rw [List.take_succ_eq_append_getElem hk, encL_append]
  simp [encL]
theorem kindsOkL_iff : ∀ l : List T, kindsOkL l = true ↔ ∀ t ∈ l, kindsOk t = true
  | [] => by simp [kindsOkL]
  | t :: ts => by simp [kindsOkL, kindsOkL_iff ts]
theorem deepL_le : ∀ (l : List T) (n : Nat), deepL l ≤ n ↔ ∀ t ∈ l, deepT t ≤ n
  | [], n => by simp [deepL]
  | t :: ts, n => by simp [deepL, ← deepL_le ts n]; omega
theorem wfL_iff : ∀ l : List T, wfL l = true ↔ ∀ t ∈ l, wfT t = true
  | [] => by simp [wfL]
  | t :: ts => by simp [wfL, wfL_iff ts]
/-- Whether a value may be put within so many lists behind so many bytes. -/
def gdT (t : T) (d : Nat) (bs : List UInt8) : Bool := kindsOk t && decide (deepT t + d ≤ 8) && decide ((bs ++ enc t).length ≤ 65536)
theorem gdT_iff {t : T} {d : Nat} {bs : List UInt8} : gdT t d bs = true ↔ kindsOk t = true ∧ deepT t + d ≤ 8 ∧ (bs ++ enc t).length ≤ 65536 := by simp [gdT, and_assoc]
theorem gd_inner {n : Int} {s : ByteArray} {l : List T} {d : Nat} {bs : List UInt8} {k : Nat} (hk : k < l.length) (h : gdT (.mk 3 n s l) d bs = true) : gdT l[k] (d + 1) (bs ++ 108 :: encL (l.take k)) = true := by
  rw [gdT_iff] at h ⊢
  obtain ⟨h1, h2, h3⟩ := h
  rcases kinds_cases h1 with e | e | ⟨_, hkl⟩
  · cases e
  · cases e
  · have hm : l[k] ∈ l := List.getElem_mem hk
    have hd : deepL l + 1 + d ≤ 8 := by simpa [deepT] using h2
    have hdk := (deepL_le l _).1 (Nat.le_refl _) _ hm
    refine ⟨(kindsOkL_iff l).1 hkl _ hm, by omega, ?_⟩
    rw [enc_list] at h3
    have e : l = l.take k ++ (l[k] :: l.drop (k + 1)) := by rw [← List.drop_eq_getElem_cons hk, List.take_append_drop]
    have el : (encL l).length = (encL (l.take k)).length + (enc l[k]).length + (encL (l.drop (k + 1))).length := by
      conv => lhs; rw [e, encL_append, encL]
      simp
      omega
    simp at h3 ⊢
    omega
theorem gd_all {n : Int} {s : ByteArray} {l : List T} {d : Nat} {bs : List UInt8} (hd : d < 8) (h1 : ∀ t ∈ l, kindsOk t = true) (h2 : ∀ t ∈ l, deepT t + (d + 1) ≤ 8) : gdT (.mk 3 n s l) d bs = decide ((bs ++ 108 :: (encL l ++ [101])).length ≤ 65536) := by
  have k1 : kindsOk (.mk 3 n s l) = true := by simp [kindsOk, (kindsOkL_iff l).2 h1]
  have k2 : deepT (.mk 3 n s l) + d ≤ 8 := by
    have := (deepL_le l (7 - d)).2 (fun t ht => by have := h2 t ht; omega)
    simp [deepT]
    omega
  simp only [gdT, k1, decide_eq_true k2, Bool.true_and, enc_list]
/-- What holds at the head of each round of a list's writing. -/
structure WRel (l : List T) (d : Nat) (bs : List UInt8) (Wb B : Nat) (w wr : World) (k : Nat) : Prop where
  at_ : ∃ u, WrAt wr Wb B u (bs ++ 108 :: encL (l.take k))
  bel : Below Wb w wr
  kinds : ∀ t ∈ l.take k, kindsOk t = true
  deep : ∀ t ∈ l.take k, deepT t + (d + 1) ≤ 8
  len : (bs ++ 108 :: encL (l.take k)).length ≤ 65538 + d

theorem wrel_step {l : List T} {d : Nat} {bs : List UInt8} {Wb B : Nat} {w wr w3 : World} {k : Nat} {x : T} (hR : WRel l d bs Wb B w wr k) (hg : gdT x (d + 1) (bs ++ 108 :: encL (l.take k)) = true) (he : encL (l.take (k + 1)) = encL (l.take k) ++ enc x) (ht : l.take (k + 1) = l.take k ++ [x])
    (hw3 : ∃ u, WrAt w3 Wb B u (bs ++ 108 :: encL (l.take k) ++ enc x)) (hb3 : Below Wb wr w3) : WRel l d bs Wb B w w3 (k + 1) := by
  obtain ⟨g1, g2, g3⟩ := gdT_iff.1 hg
  have e : bs ++ 108 :: encL (l.take (k + 1)) = bs ++ 108 :: encL (l.take k) ++ enc x := by rw [he]; simp
  refine ⟨by rw [e]; exact hw3, hR.bel.trans hb3, ?_, ?_, by rw [e]; omega⟩
  · rw [ht]
    intro t hm
    rcases List.mem_append.1 hm with hm | hm
    · exact hR.kinds t hm
    · simp at hm; subst hm; exact g1
  · rw [ht]
    intro t hm
    rcases List.mem_append.1 hm with hm | hm
    · exact hR.deep t hm
    · simp at hm; subst hm; exact g2
set_option maxRecDepth 100000 in
set_option maxHeartbeats 8000000 in
theorem wlist_of (N : Nat) (Wb B : Nat) (ih : ∀ (t : T) (v : Value) (w : World) (u : Value) (bs : List UInt8) (d : Nat) (D : Int), SizeOf.sizeOf t < N → RdA (fun b => b < Wb) w t v → wfT t = true → WrAt w Wb B u bs → Tabs w Wb → bs.length ≤ 65537 + d → D = (d : Int) → d ≤ 8 →
      Calls Tryd.prog 35 #[.pointer (some ⟨Wb, 0, none⟩), v, .int .i64 D] w (WVPost Wb B (gdT t d bs) (bs ++ enc t) w))
    (n : Int) (s : ByteArray) (l : List T) (A : Option Addr) (c : Nat) (xs : List Value) (w : World) (u : Value) (bs : List UInt8) (d : Nat) (D : Int) (hN : ∀ t ∈ l, SizeOf.sizeOf t < N) (hr : ReadsP (fun b => b < Wb) w 4 A l.length xs) (hl : RdL (fun b => b < Wb) w l xs) (hcap : l.length ≤ 9223372036854775807) (hwf : wfL l = true)
    (h : WrAt w Wb B u bs) (hT : Tabs w Wb) (hlen : bs.length ≤ 65537 + d) (hD : D = (d : Int)) (hd : d ≤ 8) :
    Calls Tryd.prog 58 #[.pointer (some ⟨Wb, 0, none⟩), .slice A l.length c, .int .i64 D] w (WVPost Wb B (gdT (.mk 3 n s l) d bs) (bs ++ enc (.mk 3 n s l)) w) := by
  obtain ⟨hc, hf, hz⟩ := h.cell
  have hBs := h.le
  have hlt := h.lt
  by_cases h8 : d = 8
  · have hg : gdT (.mk 3 n s l) d bs = false := by
      rw [Bool.eq_false_iff, Ne, gdT_iff]
      rintro ⟨_, h2, _⟩
      simp [deepT] at h2
      omega
    have hD8 : (D == 8) = true := by rw [beq_iff_eq]; omega
    rw [hg]
    clear hD
    go_enter Tryd.func58, Tryd.ntmps58
    go_wp2_with fail
    go_ret
    exact ⟨rfl, fun h => by simp at h, Below.refl _ _⟩
  · have hd8 : d < 8 := by omega
    have hD8 : (D == 8) = false := by rw [Bool.eq_false_iff, Ne, beq_iff_eq]; omega
    generalize hgd : gdT (.mk 3 n s l) d bs = gd
    have HGD := Lib.hid hgd
    have HD := Lib.hid hD
    have hDb : 0 ≤ D ∧ D < 8 := by omega
    clear hgd hD h8
    obtain ⟨hDb0, hDb1⟩ := hDb
    generalize hll : l.length = len at *
    have HLL := Lib.hid hll
    clear hll
    go_enter Tryd.func58, Tryd.ntmps58
    go_wp2_with (at_builtin; refine append_byte rfl (.tmp 14) (.tmp 15) rfl B u bs.length _ _ rfl rfl h.own rfl (by omega) hBs ?_; intro v1 w1 hown1 hgr1 hob1; obtain ⟨A1, c1, rfl, _⟩ := own_shape hown1; have hb1 := h.grown hgr1; obtain ⟨k0, k1, k2⟩ := blk_cell hb1)
    have hB1 : B ≤ w1.heap.size := Nat.le_trans hBs hgr1.size
    have hw2 := wr_put hb1 (own_byte 108 rfl hown1) hlt hB1
    have hbel2 : Below Wb w (w1.setCell ⟨Wb, 0, none⟩ (.slice A1 (bs.length + 1) c1)) := ((Below.refl Wb w).grown hgr1 (by omega) (fun k hk => by have := (h.own.lt _ hk).1; omega)).setCell (Nat.le_refl _) _
    generalize w1.setCell ⟨Wb, 0, none⟩ (.slice A1 (bs.length + 1) c1) = w2 at hw2 hbel2
    clear k0 k1 k2
    go_loopw [21] (fun i wr => ∃ k : Nat, i = .int .i64 (k : Int) ∧ k ≤ len ∧ WRel l d bs Wb B w wr k) (fun i _ => len - (intOf i).toNat)
    case atStart => exact ⟨0, rfl, Nat.zero_le _, ⟨_, hw2⟩, hbel2, by simp, by simp, by simp [encL]; omega⟩
    case round =>
      obtain ⟨k, rfl, hk, hR⟩ := hrel
      obtain ⟨uk, hwk⟩ := hR.at_
      have hlk := hR.len
      by_cases hlt2 : k < len
      · have hltz : (k : Int) < (len : Int) := by omega
        have hkl : k < l.length := by have := HLL.out; omega
        obtain ⟨b, o, A', c', rfl, hok, hblt, hfr, hRA, g0, g1, g2, g3⟩ := elem_at (HLL.out ▸ hr) hl hkl
        have hRA2 := hRA.keep (Keeps.of_below hR.bel (fun b hb _ => hb))
        rw [← hR.bel.cell (p := ⟨b, o + k * 4, none⟩) hok] at g0
        rw [← hR.bel.cell (p := ⟨b, o + k * 4 + 1, none⟩) hok] at g1
        rw [← hR.bel.cell (p := ⟨b, o + k * 4 + 2, none⟩) hok] at g2
        rw [← hR.bel.cell (p := ⟨b, o + k * 4 + 3, none⟩) hok] at g3
        have hmem : l[k] ∈ l := List.getElem_mem hkl
        have hszk := hN _ hmem
        have hwfk := (wfL_iff l).1 hwf _ hmem
        have hinn : gd = true → gdT l[k] (d + 1) (bs ++ 108 :: encL (l.take k)) = true := fun h => gd_inner hkl (HGD.out.trans h)
        have HINN := Lib.hid hinn
        have HENC := Lib.hid (encL_take l k hkl)
        have HTK := Lib.hid (List.take_succ_eq_append_getElem hkl)
        clear hinn hmem hRA hfr
        generalize l[k] = x at *
        cases hq : gdT x (d + 1) (bs ++ 108 :: encL (l.take k)) with
        | true =>
          have HQ := Lib.hid hq
          clear hq
          go_wp2_with fail
          refine (ih x _ _ _ _ (d + 1) (D + 1) hszk hRA2 hwfk hwk (hT.on hR.bel) (by omega) (by have := HD.out; omega) (by omega)).mono ?_
          rw [HQ.out]
          rintro e w3 ⟨rfl, hw3, hb3⟩
          have HW3 := Lib.hid (hw3 rfl)
          clear hw3
          go_wp2_with fail
          go_roundw
          case rel => exact ⟨k + 1, by go_num, by omega, wrel_step hR HQ.out HENC.out HTK.out HW3.out hb3⟩
          case measure => simp [intOf]; omega
        | false =>
          have HQ := Lib.hid hq
          clear hq
          have hgf : gd = false := by
            cases hg : gd with
            | false => rfl
            | true => have := HINN.out hg; rw [HQ.out] at this; cases this
          have HGF := Lib.hid hgf
          clear hgf
          go_wp2_with fail
          refine (ih x _ _ _ _ (d + 1) (D + 1) hszk hRA2 hwfk hwk (hT.on hR.bel) (by omega) (by have := HD.out; omega) (by omega)).mono ?_
          rw [HQ.out]
          rintro e w3 ⟨rfl, _, hb3⟩
          go_wp2_with fail
          go_ret
          refine ⟨ret_bool HGF.out.symm, fun h => ?_, hR.bel.trans hb3⟩
          rw [HGF.out] at h
          cases h
      · have hltz : ¬ (k : Int) < (len : Int) := by omega
        have htk : l.take k = l := List.take_of_length_le (by have := HLL.out; omega)
        have hkk := hR.kinds
        have hdk := hR.deep
        have hbk := hR.bel
        rw [htk] at hwk hlk hkk hdk
        have HF : Hid (gd = decide ((bs ++ enc (.mk 3 n s l)).length ≤ 65536)) := Lib.hid (by rw [← HGD.out, gd_all hd8 hkk hdk, enc_list])
        have HE : Hid (bs ++ 108 :: encL l ++ [101] = bs ++ enc (.mk 3 n s l)) := Lib.hid (by rw [enc_list]; simp)
        clear htk hkk hdk
        obtain ⟨k0, k1, k2⟩ := hwk.cell
        have hownk := hwk.own
        have hgrk := fun w5 => hwk.grown (w1 := w5)
        have hlek := hwk.le
        generalize bs ++ 108 :: encL l = bs' at *
        go_wp2_with (first
          | (at_builtin; refine append_byte rfl (.tmp 38) (.tmp 39) rfl B uk bs'.length _ _ rfl rfl hownk rfl (by omega) hlek ?_; intro v5 w5 hown5 hgr5 hob5; obtain ⟨A5, c5, rfl, _⟩ := own_shape hown5; have hb5 := hgrk _ hgr5; obtain ⟨k3, k4, k5⟩ := blk_cell hb5)
          | (go_at_call 59; refine (fits_any Wb B _ (bs' ++ [101]) _ (wr_put hb5 (own_byte 101 rfl hown5) hlt (by have := hgr5.size; omega))).mono ?_; rintro e w' ⟨rfl, rfl⟩))
        have hw6 := wr_put hb5 (own_byte 101 rfl hown5) hlt (by have := hgr5.size; omega)
        have hbel6 : Below Wb w (w5.setCell ⟨Wb, 0, none⟩ (.slice A5 (bs'.length + 1) c5)) := (hbk.grown hgr5 (by omega) (fun k hk => by have := (hownk.lt _ hk).1; omega)).setCell (Nat.le_refl _) _
        go_ret
        rw [HE.out] at hw6
        exact ⟨ret_bool (by rw [HF.out, ← HE.out, decide_eq_decide]; simp), fun _ => ⟨_, hw6⟩, hbel6⟩
end Go.Proofs.YtcbkgcnajplagaaDoor.Be
end
section
set_option linter.unusedVariables false
set_option linter.unusedSimpArgs false
set_option maxRecDepth 100000
namespace Go.Proofs.YtcbkgcnajplagaaDoor.Po
open Go
open Be (T kindsOk kindsOkL deepT deepL wfT wfL tidy tidyL onlyRes takeRes gdT)
def nT (n : Int) : T := .mk 1 n .empty []
def lT (l : List Int) : T := .mk 3 0 .empty (l.map nT)
def hitsL : List (Int × Int) → List Int
  | [] => []
  | x :: r => x.1 :: x.2 :: hitsL r
def hitsOf : List Int → List (Int × Int)
  | a :: b :: r => (a, b) :: hitsOf r
  | _ => []
theorem hitsOf_L : ∀ l, hitsOf (hitsL l) = l
  | [] => rfl
  | (a, b) :: r => by rw [hitsL, hitsOf, hitsOf_L r]
theorem hitsL_len : ∀ l, (hitsL l).length = 2 * l.length
  | [] => rfl
  | x :: r => by simp only [hitsL, List.length_cons, hitsL_len r]; omega
theorem hitsL_app : ∀ a b, hitsL (a ++ b) = hitsL a ++ hitsL b
  | [], b => rfl
  | x :: r, b => by simp only [List.cons_append, hitsL, hitsL_app r b]
theorem hitsL_mem : ∀ {l : List (Int × Int)} {z : Int}, z ∈ hitsL l → ∃ x ∈ l, z = x.1 ∨ z = x.2
  | x :: r, z, h => by
    simp only [hitsL, List.mem_cons] at h
    rcases h with h | h | h
    · exact ⟨x, List.mem_cons_self .., Or.inl h⟩
    · exact ⟨x, List.mem_cons_self .., Or.inr h⟩
    · obtain ⟨y, hy, hz⟩ := hitsL_mem h
      exact ⟨y, List.mem_cons_of_mem _ hy, hz⟩
def headL (m : M) : List Int := [m.kd, m.sh, m.ep, m.cl, m.sq, m.nn, m.vr, m.lm, m.ok, m.oi, m.kk]
def itemsM (m : M) : List T := (headL m).map nT ++ [lT m.vs, nT m.er, nT (b2i m.wa), lT (hitsL m.hs)]
def valM (m : M) : T := .mk 3 0 .empty (itemsM m)
theorem nT_facts {n : Int} (h : S64 n) : kindsOk (nT n) = true ∧ deepT (nT n) = 0 ∧ wfT (nT n) = true ∧ tidy (nT n) = nT n ∧ (Be.enc (nT n)).length ≤ 22 := by
  refine ⟨by simp [nT, kindsOk], by simp [nT, deepT], ?_, by simp [nT, tidy], ?_⟩
  · have h1 := h.1
    have h2 := h.2
    simp [nT, wfT, wfL, h1, h2]
  · have := Be.itoa_len n h.1 h.2
    simp only [nT, Be.enc, if_true, List.length_cons, List.length_append, List.length_nil]
    omega
theorem nTs_facts : ∀ (l : List Int), (∀ x ∈ l, S64 x) → kindsOkL (l.map nT) = true ∧ deepL (l.map nT) = 0 ∧ wfL (l.map nT) = true ∧ tidyL (l.map nT) = l.map nT ∧ (Be.encL (l.map nT)).length ≤ 22 * l.length
  | [], _ => by simp [kindsOkL, deepL, wfL, tidyL, Be.encL]
  | x :: r, h => by
    obtain ⟨a1, a2, a3, a4, a5⟩ := nTs_facts r (fun y hy => h y (List.mem_cons_of_mem _ hy))
    obtain ⟨b1, b2, b3, b4, b5⟩ := nT_facts (h x (List.mem_cons_self ..))
    refine ⟨by simp [kindsOkL, a1, b1], by simp [deepL, a2, b2], by simp [wfL, a3, b3], by simp [tidyL, a4, b4], ?_⟩
    simp only [List.map_cons, Be.encL, List.length_append, List.length_cons]
    omega
theorem lT_facts {l : List Int} (h : ∀ x ∈ l, S64 x) : kindsOk (lT l) = true ∧ deepT (lT l) ≤ 1 ∧ wfT (lT l) = true ∧ tidy (lT l) = lT l ∧ (Be.enc (lT l)).length ≤ 22 * l.length + 2 := by
  obtain ⟨a1, a2, a3, a4, a5⟩ := nTs_facts l h
  refine ⟨by simp [lT, kindsOk, a1], by simp only [lT, deepT, a2]; simp, by simp [lT, wfT, a3], by simp [lT, tidy, a4], ?_⟩
  simp only [lT, Be.enc_list, List.length_cons, List.length_append, List.length_nil]
  omega
theorem ns_nT : ∀ l : List Int, (l.map nT).map T.n = l
  | [] => rfl
  | x :: r => by
    rw [List.map_cons, List.map_cons, ns_nT r]
    rfl
theorem w40 {n : Int} (h : W40 n) : S64 n := ⟨by have := h.1; omega, by have := h.2; omega⟩
theorem b2i_64 (b : Bool) : S64 (b2i b) := by cases b <;> exact ⟨by decide, by decide⟩
theorem may_fits {m : M} (h : mayM m = true) (hf : FitM m) : (∀ x ∈ headL m, S64 x) ∧ (∀ x ∈ m.vs, S64 x) ∧ (∀ x ∈ hitsL m.hs, S64 x) ∧ S64 m.er ∧ m.vs.length ≤ 16 ∧ m.hs.length ≤ 64 := by
  rw [mayM_iff] at h
  obtain ⟨h1, h2, h3, h4, h5, h6, h7, h8, h9, h10, h11, h12, h13, h14⟩ := h
  rw [okVs_iff] at h10
  rw [okHs_iff] at h7
  refine ⟨?_, fun x hx => ⟨by have := (h10.2 x hx).1; omega, by have := (h10.2 x hx).2; omega⟩, ?_, ⟨by omega, by omega⟩, h10.1, h7.1⟩
  · intro x hx
    simp only [headL, List.mem_cons, List.not_mem_nil, or_false] at hx
    rcases hx with rfl | rfl | rfl | rfl | rfl | rfl | rfl | rfl | rfl | rfl | rfl
    · exact ⟨by omega, by omega⟩
    · exact ⟨by omega, by omega⟩
    · exact w40 h1
    · exact w40 h2
    · exact w40 h3
    · exact w40 h4
    · exact w40 h5
    · exact w40 h6
    · exact ⟨by omega, by omega⟩
    · exact hf.1
    · exact ⟨by omega, by omega⟩
  · intro z hz
    obtain ⟨x, hx, rfl | rfl⟩ := hitsL_mem hz
    · exact hf.2 x hx
    · exact w40 (h7.2 x hx)
theorem items_cons (m : M) : itemsM m = nT m.kd :: nT m.sh :: nT m.ep :: nT m.cl :: nT m.sq :: nT m.nn :: nT m.vr :: nT m.lm :: nT m.ok :: nT m.oi :: nT m.kk :: lT m.vs :: nT m.er :: nT (b2i m.wa) :: lT (hitsL m.hs) :: [] := rfl
theorem kindsL_app : ∀ a b, kindsOkL (a ++ b) = (kindsOkL a && kindsOkL b)
  | [], b => by simp [kindsOkL]
  | x :: r, b => by simp only [List.cons_append, kindsOkL, kindsL_app r b, Bool.and_assoc]
theorem wfL_app : ∀ a b, wfL (a ++ b) = (wfL a && wfL b)
  | [], b => by simp [wfL]
  | x :: r, b => by simp only [List.cons_append, wfL, wfL_app r b, Bool.and_assoc]
theorem tidyL_app : ∀ a b, tidyL (a ++ b) = tidyL a ++ tidyL b
  | [], b => by simp [tidyL]
  | x :: r, b => by simp only [List.cons_append, tidyL, tidyL_app r b]
theorem deepL_app : ∀ a b, deepL (a ++ b) = max (deepL a) (deepL b)
  | [], b => by simp [deepL]
  | x :: r, b => by simp only [List.cons_append, deepL, deepL_app r b]; omega
theorem val_facts {m : M} (h : mayM m = true) (hf : FitM m) : kindsOk (valM m) = true ∧ deepT (valM m) ≤ 2 ∧ wfT (valM m) = true ∧ tidy (valM m) = valM m ∧ (Be.enc (valM m)).length ≤ 4000 := by
  obtain ⟨f1, f2, f3, f4, f5, f6⟩ := may_fits h hf
  obtain ⟨a1, a2, a3, a4, a5⟩ := nTs_facts _ f1
  obtain ⟨b1, b2, b3, b4, b5⟩ := lT_facts f2
  obtain ⟨c1, c2, c3, c4, c5⟩ := lT_facts f3
  obtain ⟨d1, d2, d3, d4, d5⟩ := nT_facts f4
  obtain ⟨e1, e2, e3, e4, e5⟩ := nT_facts (b2i_64 m.wa)
  rw [hitsL_len] at c5
  have hl : (headL m).length = 11 := rfl
  rw [hl] at a5
  refine ⟨?_, ?_, ?_, ?_, ?_⟩
  · simp only [valM, itemsM, kindsOk, kindsL_app, kindsOkL, a1, b1, c1, d1, e1]; simp
  · simp only [valM, itemsM, deepT, deepL_app, deepL, a2, d2, e2]; simp; omega
  · simp only [valM, itemsM, wfT, wfL_app, wfL, a3, b3, c3, d3, e3]; simp
  · simp only [valM, itemsM, tidy, tidyL_app, tidyL, a4, b4, c4, d4, e4]; simp
  · simp only [valM, itemsM, Be.enc_list, Be.encL_append, Be.encL, List.length_cons, List.length_append, List.length_nil]
    omega
theorem val_gd {m : M} (h : mayM m = true) (hf : FitM m) : gdT (valM m) 0 [] = true := by
  obtain ⟨a1, a2, a3, a4, a5⟩ := val_facts h hf
  exact Be.gdT_iff.2 ⟨a1, by omega, by rw [List.nil_append]; omega⟩
theorem val_only {m : M} (h : mayM m = true) (hf : FitM m) : onlyRes (Be.enc (valM m)) = .ok (valM m) := by
  obtain ⟨a1, a2, a3, a4, a5⟩ := val_facts h hf
  have := Be.rd_enc (valM m) 0 [] a1 a3 (by omega) (by omega)
  rw [List.append_nil, a4] at this
  unfold onlyRes takeRes
  rw [this]
  simp only
  rw [if_neg (by omega)]
  simp
/-- The message of fifteen values and a text. -/
def ofVals (l : List T) (tx : ByteArray) : Option M := match l with
  | [a0, a1, a2, a3, a4, a5, a6, a7, a8, a9, a10, a11, a12, a13, a14] => some ⟨a0.n, a1.n, a2.n, a3.n, a4.n, a5.n, a6.n, a7.n, a8.n, a9.n, a10.n, a11.l.map T.n, a12.n, decide (a13.n = 1), hitsOf (a14.l.map T.n), tx⟩
  | _ => none
theorem b2i_one (b : Bool) : decide (b2i b = 1) = b := by cases b <;> decide
theorem ofVals_items (m : M) : ofVals (valM m).l m.tx = some m := by
  show ofVals (itemsM m) m.tx = some m
  rw [items_cons]
  show some (M.mk m.kd m.sh m.ep m.cl m.sq m.nn m.vr m.lm m.ok m.oi m.kk ((m.vs.map nT).map T.n) m.er (decide (b2i m.wa = 1)) (hitsOf (((hitsL m.hs).map nT).map T.n)) m.tx) = some m
  rw [ns_nT, ns_nT, hitsOf_L, b2i_one]
theorem ofVals_no {l : List T} {tx : ByteArray} (h : l.length ≠ 15) : ofVals l tx = none := by
  unfold ofVals
  split
  · simp at h
  · rfl
theorem fifteen {α : Type} {l : List α} (h : l.length = 15) : ∃ a0 a1 a2 a3 a4 a5 a6 a7 a8 a9 a10 a11 a12 a13 a14, l = [a0, a1, a2, a3, a4, a5, a6, a7, a8, a9, a10, a11, a12, a13, a14] := by
  match l, h with
  | [a0, a1, a2, a3, a4, a5, a6, a7, a8, a9, a10, a11, a12, a13, a14], _ => exact ⟨a0, a1, a2, a3, a4, a5, a6, a7, a8, a9, a10, a11, a12, a13, a14, rfl⟩
end Go.Proofs.YtcbkgcnajplagaaDoor.Po
end
section
set_option linter.unusedVariables false
set_option linter.unusedSimpArgs false
set_option maxRecDepth 100000
namespace Go.Proofs.YtcbkgcnajplagaaDoor.Po
open Go Go.RowKit
open Be (T encL kindsOk kindsOkL deepT deepL wfT wfL tidy tidyL onlyRes takeRes gdT RdL Rd RdA ReadsP Keeps)
theorem only_len {bs : List UInt8} {t : T} (h : onlyRes bs = .ok t) : bs.length ≤ 65536 := by
  unfold onlyRes at h
  cases ht : takeRes bs with
  | error y => rw [ht] at h; cases h
  | ok p =>
    obtain ⟨t', n⟩ := p
    rw [ht] at h
    simp only at h
    obtain ⟨_, h2⟩ := Be.takeRes_ok ht
    split at h
    · cases h
    · omega
theorem only_err {bs : List UInt8} {x : Int} (h : onlyRes bs = .error x) : x ≠ 0 := by
  unfold onlyRes at h
  cases ht : takeRes bs with
  | error y =>
    rw [ht] at h
    simp only [Except.error.injEq] at h
    subst h
    have := Be.takeRes_errs ht
    omega
  | ok p =>
    obtain ⟨t, n⟩ := p
    rw [ht] at h
    simp only at h
    split at h
    · simp only [Except.error.injEq] at h
      omega
    · cases h
/-- How long lists are that were read. -/
theorem encL_ge : ∀ {l : List T}, kindsOkL l = true → l.length ≤ (encL l).length
  | [], _ => Nat.zero_le _
  | t :: r, h => by
    simp only [kindsOkL, Bool.and_eq_true] at h
    obtain ⟨c, q, he, _⟩ := Be.enc_head t h.1
    have := encL_ge h.2
    simp only [encL, List.length_append, List.length_cons, he]
    omega
theorem len_enc {t : T} (hk : kindsOk t = true) (hc : Be.cleanT t = true) : t.l.length ≤ (Be.enc t).length ∧ (t.l ≠ [] → t.k = 3 ∧ kindsOkL t.l = true) ∧ Be.cleanL t.l = true := by
  obtain ⟨k, n, s, l⟩ := t
  simp only [Be.cleanT, Bool.and_eq_true, Bool.or_eq_true, decide_eq_true_eq] at hc
  rcases Be.kinds_cases hk with rfl | rfl | ⟨rfl, hkl⟩
  · have : l = [] := by
      rcases hc.1.2 with h | h
      · cases h
      · simpa using h
    subst this
    exact ⟨by simp [Be.T.l], fun h => absurd rfl h, hc.2⟩
  · have : l = [] := by
      rcases hc.1.2 with h | h
      · cases h
      · simpa using h
    subst this
    exact ⟨by simp [Be.T.l], fun h => absurd rfl h, hc.2⟩
  · refine ⟨?_, fun _ => ⟨rfl, hkl⟩, hc.2⟩
    have := encL_ge hkl
    simp only [Be.enc_list, List.length_cons, List.length_append, Be.T.l]
    omega
theorem mem_kinds : ∀ {l : List T} {u : T}, u ∈ l → kindsOkL l = true → Be.cleanL l = true → kindsOk u = true ∧ Be.cleanT u = true ∧ (Be.enc u).length ≤ (encL l).length
  | t :: r, u, hu, hk, hc => by
    simp only [kindsOkL, Bool.and_eq_true] at hk
    simp only [Be.cleanL, Bool.and_eq_true] at hc
    rcases List.mem_cons.1 hu with rfl | hu
    · refine ⟨hk.1, hc.1, ?_⟩
      simp only [encL, List.length_append]
      omega
    · obtain ⟨a, b, c⟩ := mem_kinds hu hk.2 hc.2
      refine ⟨a, b, ?_⟩
      simp only [encL, List.length_append]
      omega
theorem len_small {bs : List UInt8} {t : T} (h : onlyRes bs = .ok t) : t.l.length ≤ 65536 ∧ ∀ u ∈ t.l, u.l.length ≤ 65536 := by
  have hlen := only_len h
  unfold onlyRes at h
  cases htk : takeRes bs with
  | error x => rw [htk] at h; cases h
  | ok p =>
    obtain ⟨t', n⟩ := p
    rw [htk] at h
    simp only at h
    split at h
    · cases h
    · rename_i hn
      obtain rfl : t' = t := by injection h
      obtain ⟨h1, h2⟩ := Be.takeRes_ok htk
      have hr := Be.rd_inv (by omega) h1
      have hb : (Be.enc t').length ≤ 65536 := by
        rw [hr.bytes, List.length_take]
        omega
      obtain ⟨g1, g2, g3⟩ := len_enc hr.kinds hr.clean
      refine ⟨by omega, fun u hu => ?_⟩
      obtain ⟨hk3, hkl⟩ := g2 (fun e => by rw [e] at hu; simp at hu)
      obtain ⟨a, b, c⟩ := mem_kinds hu hkl g3
      have := (len_enc a b).1
      have hl : (encL t'.l).length ≤ (Be.enc t').length := by
        obtain ⟨k, m, s, l⟩ := t'
        simp only [Be.T.k] at hk3
        subst hk3
        simp only [Be.enc_list, List.length_cons, List.length_append, Be.T.l]
        omega
      omega
end Go.Proofs.YtcbkgcnajplagaaDoor.Po
end
