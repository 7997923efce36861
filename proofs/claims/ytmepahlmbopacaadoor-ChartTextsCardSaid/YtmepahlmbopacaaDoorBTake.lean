/- What Take and Only return: the value that bytes begin with, and are, or why there is none. Conditions: up to 1000000000 bytes. -/
import Derived.Test.YtmepahlmbopacaaDoorBVal
import Derived.Deep.RegionHeld3
set_option linter.unusedVariables false
set_option linter.unusedSimpArgs false
namespace Go.Proofs.YtmepahlmbopacaaDoor.Be
open Go Go.RowKit

mutual
theorem limT_of : ∀ t : T, kindsOk t = true → tidy t = t → (enc t).length ≤ 1000000000 → limT t = true
  | .mk k n s l, hk, ht, hl => by
    rcases kinds_cases hk with rfl | rfl | ⟨rfl, hkl⟩
    · rw [tidy_int] at ht
      injection ht with _ _ hs hl'
      subst hs hl'
      rfl
    · rw [tidy_text] at ht
      injection ht with _ _ hs hl'
      subst hl'
      rw [enc_text] at hl
      simp at hl
      simp [limT, limL]
      omega
    · rw [tidy_list] at ht
      injection ht with _ _ hs hl'
      subst hs
      rw [enc_list] at hl
      simp [limT, limL_of l hkl hl' (by simp at hl; omega)]
theorem limL_of : ∀ l : List T, kindsOkL l = true → tidyL l = l → (encL l).length ≤ 1000000000 → limL l = true
  | [], _, _, _ => rfl
  | t :: ts, hk, ht, hl => by
    simp only [kindsOkL, Bool.and_eq_true] at hk
    simp only [tidyL, List.cons.injEq] at ht
    rw [encL, List.length_append] at hl
    simp [limL, limT_of t hk.1 ht.1 (by omega), limL_of ts hk.2 ht.2 (by omega)]
end
def zeroA : Value := .agg #[.int .i64 0, .int .i64 0, .string ⟨#[]⟩, .slice none 0 0]
def TakePost (s : ByteArray) (w : World) (e : Ending) (w' : World) : Prop :=
  match rd s.data.toList 0 with
  | .error x => e = .returned (.tuple #[zeroA, .int .i64 0, .int .i64 x]) ∧ Below w.heap.size w w'
  | .ok (t, n) => if 65536 < n then e = .returned (.tuple #[zeroA, .int .i64 0, .int .i64 23]) ∧ Below w.heap.size w w' else ∃ v, e = .returned (.tuple #[v, .int .i64 n, .int .i64 0]) ∧ RdA (fun b => w.heap.size ≤ b) w' t v ∧ Below w.heap.size w w'
theorem below_grown_new {w w1 w' : World} {R : Nat} (h : Below w.heap.size w w1) (hg : w1.grownBy w' (some R)) (hR : w.heap.size ≤ R) : Below w.heap.size w w' := h.grown hg h.size (fun k hk => by injection hk; omega)
/-- The two blocks that Take begins with. -/
theorem take_start (s : ByteArray) (w : World) : ((w.alloc (.cells #[.int .i64 0, .int .i64 0, .string ⟨#[]⟩, .slice none 0 0] 60)).alloc (.cells #[.string s, .int .i64 0, .int .i64 0] 103)).heap[w.heap.size]? = some (.cells #[.int .i64 0, .int .i64 0, .string ⟨#[]⟩, .slice none 0 0] 60 (0, 0)) ∧
    IsRd ((w.alloc (.cells #[.int .i64 0, .int .i64 0, .string ⟨#[]⟩, .slice none 0 0] 60)).alloc (.cells #[.string s, .int .i64 0, .int .i64 0] 103)) (w.heap.size + 1) s 0 0 ∧
    Below w.heap.size w ((w.alloc (.cells #[.int .i64 0, .int .i64 0, .string ⟨#[]⟩, .slice none 0 0] 60)).alloc (.cells #[.string s, .int .i64 0, .int .i64 0] 103)) ∧
    ((w.alloc (.cells #[.int .i64 0, .int .i64 0, .string ⟨#[]⟩, .slice none 0 0] 60)).alloc (.cells #[.string s, .int .i64 0, .int .i64 0] 103)).heap.size = w.heap.size + 2 := by
  refine ⟨?_, ?_, ((Below.refl _ _).alloc (Nat.le_refl _) _).alloc (by simp) _, by simp⟩
  · rw [Below.heap_alloc _ _ _ (by simp)]
    exact heap_alloc_new w _
  · have := heap_alloc_new (w.alloc (.cells #[.int .i64 0, .int .i64 0, .string ⟨#[]⟩, .slice none 0 0] 60)) (.cells #[.string s, .int .i64 0, .int .i64 0] 103)
    simpa [IsRd] using this
set_option maxRecDepth 100000 in
set_option maxHeartbeats 8000000 in
theorem take_err (s : ByteArray) (hs : s.size ≤ 1000000000) (w : World) (x : Int) (hx : rd s.data.toList 0 = .error x) : Calls Tryd.prog 49 #[.string s] w fun e w' => e = .returned (.tuple #[zeroA, .int .i64 0, .int .i64 x]) ∧ Below w.heap.size w w' := by
  have HX := Lib.hid hx
  clear hx
  obtain ⟨hblk, hI, hb0, hsz⟩ := take_start s w
  go_enter Tryd.func49, Tryd.ntmps49
  go_wp2_with fail
  generalize (w.alloc (.cells #[.int .i64 0, .int .i64 0, .string ⟨#[]⟩, .slice none 0 0] 60)).alloc (.cells #[.string s, .int .i64 0, .int .i64 0] 103) = w1 at hblk hI hb0 hsz
  have HB := Lib.hid hblk
  have HS := Lib.hid hsz
  clear hblk hsz
  refine (value_any (w.heap.size + 1) s hs 0 0 _ hI (by omega)).mono ?_
  rw [List.drop_zero, HX.out]
  rintro e w3 ⟨rfl, hg4⟩
  have as0 := as_27_27 (.int .i64 x) w3
  have hblk3 := (hg4.block w.heap.size (by have := HS.out; omega) (by simp)).trans HB.out
  obtain ⟨e0, e1, e2, e3, ef⟩ := val_block hblk3
  have hb3 := below_grown_new hb0 hg4 (by omega)
  have hz3 : w.heap.size < w3.heap.size := by have := hg4.size; have := HS.out; omega
  clear hblk3
  go_wp2_with fail
  refine bodyPost_ret (v := .tuple #[zeroA, .int .i64 0, .int .i64 x]) (by simp [results, Tryd.results49, go_sem, e0, e1, e2, e3, hz3, zeroA]) rfl ⟨rfl, ?_⟩
  exact (((hb3.setCell (Nat.le_refl _) _).setCell (Nat.le_refl _) _).setCell (Nat.le_refl _) _).setCell (Nat.le_refl _) _
set_option maxRecDepth 100000 in
set_option maxHeartbeats 8000000 in
theorem take_long (s : ByteArray) (hs : s.size ≤ 1000000000) (w : World) (t : T) (n : Nat) (hx : rd s.data.toList 0 = .ok (t, n)) (hn : 65536 < n) : Calls Tryd.prog 49 #[.string s] w fun e w' => e = .returned (.tuple #[zeroA, .int .i64 0, .int .i64 23]) ∧ Below w.heap.size w w' := by
  have hle := (rd_inv (by omega) hx).le
  simp at hle
  have HX := Lib.hid hx
  clear hx
  obtain ⟨hblk, hI, hb0, hsz⟩ := take_start s w
  go_enter Tryd.func49, Tryd.ntmps49
  go_wp2_with fail
  generalize (w.alloc (.cells #[.int .i64 0, .int .i64 0, .string ⟨#[]⟩, .slice none 0 0] 60)).alloc (.cells #[.string s, .int .i64 0, .int .i64 0] 103) = w1 at hblk hI hb0 hsz
  have HB := Lib.hid hblk
  have HS := Lib.hid hsz
  clear hblk hsz
  refine (value_any (w.heap.size + 1) s hs 0 0 _ hI (by omega)).mono ?_
  rw [List.drop_zero, HX.out]
  rintro e w3 ⟨v, rfl, hI3, hg4, hne, hv⟩
  obtain ⟨ky, y', rfl, has⟩ := hne.form
  have as0 := has w3
  have hblk3 := (hg4.block w.heap.size (by have := HS.out; omega) (by simp)).trans HB.out
  obtain ⟨e0, e1, e2, e3, ef⟩ := val_block hblk3
  have hb3 := below_grown_new hb0 hg4 (by omega)
  have hz3 : w.heap.size < w3.heap.size := by have := hg4.size; have := HS.out; omega
  rw [Nat.zero_add] at hI3 hv
  have c1 := hI3.c1
  have hnz : (65536 : Int) < (n : Int) := by omega
  clear hblk3 has hne
  go_wp2_with fail
  refine bodyPost_ret (v := .tuple #[zeroA, .int .i64 0, .int .i64 23]) (by simp [results, Tryd.results49, go_sem, e0, e1, e2, e3, hz3, zeroA]) rfl ⟨rfl, ?_⟩
  exact (((hb3.setCell (Nat.le_refl _) _).setCell (Nat.le_refl _) _).setCell (Nat.le_refl _) _).setCell (Nat.le_refl _) _
def VTPost (t : T) (w : World) (e : Ending) (w' : World) : Prop := ∃ A c, e = .returned (.agg #[.int .i64 t.k, .int .i64 t.n, .string t.s, .slice A t.l.length c]) ∧ RdA (fun b => w.heap.size ≤ b) w' t (.agg #[.int .i64 t.k, .int .i64 t.n, .string t.s, .slice A t.l.length c]) ∧ Below w.heap.size w w'
theorem valueOf_tidy (t : T) (ht : tidy t = t) (v : Value) (ok : Nat → Prop) (w : World) (hv : Hv ok w t v) (hl : limT t = true) : Calls Tryd.prog 67 #[v] w (VTPost t w) :=
  (valueOf_any t v ok w hv hl).mono fun e w' ⟨v', he, hr, hb⟩ => by
    rw [ht] at hr
    obtain ⟨A, c, rfl, _⟩ := hr.rd
    exact ⟨A, c, he, hr, hb⟩
set_option maxRecDepth 100000 in
set_option maxHeartbeats 8000000 in
theorem take_ok (s : ByteArray) (hs : s.size ≤ 1000000000) (w : World) (t : T) (n : Nat) (hx : rd s.data.toList 0 = .ok (t, n)) (hn : n ≤ 65536) : Calls Tryd.prog 49 #[.string s] w fun e w' => ∃ v, e = .returned (.tuple #[v, .int .i64 n, .int .i64 0]) ∧ RdA (fun b => w.heap.size ≤ b) w' t v ∧ Below w.heap.size w w' := by
  have hinv := rd_inv (by omega) hx
  have hle := hinv.le
  simp at hle
  have hlim : limT t = true := limT_of t hinv.kinds hinv.tidy (by rw [hinv.bytes]; simp; omega)
  have HT := Lib.hid hinv.tidy
  have HX := Lib.hid hx
  clear hx hinv
  obtain ⟨hblk, hI, hb0, hsz⟩ := take_start s w
  go_enter Tryd.func49, Tryd.ntmps49
  go_wp2_with fail
  generalize (w.alloc (.cells #[.int .i64 0, .int .i64 0, .string ⟨#[]⟩, .slice none 0 0] 60)).alloc (.cells #[.string s, .int .i64 0, .int .i64 0] 103) = w1 at hblk hI hb0 hsz
  have HB := Lib.hid hblk
  have HS := Lib.hid hsz
  clear hblk hsz
  refine (value_any (w.heap.size + 1) s hs 0 0 _ hI (by omega)).mono ?_
  rw [List.drop_zero, HX.out]
  rintro e w3 ⟨v, rfl, hI3, hg4, hne, hv⟩
  obtain ⟨ky, y', rfl, has⟩ := hne.form
  have as0 := has w3
  have hblk3 := (hg4.block w.heap.size (by have := HS.out; omega) (by simp)).trans HB.out
  have hb3 := below_grown_new hb0 hg4 (by omega)
  have hz3 : w.heap.size + 1 < w3.heap.size := by have := hg4.size; have := HS.out; omega
  rw [Nat.zero_add] at hI3 hv
  have hv3 := hv (by omega)
  have c1 := hI3.c1
  have hnz : ¬ (65536 : Int) < (n : Int) := by omega
  have HB3 := Lib.hid hblk3
  clear hblk3 has hne hv
  go_wp2_with fail
  have hvd := Hv.keep (w := w3) (w' := w3.drew) ⟨Nat.le_refl _, fun _ _ _ => rfl⟩ _ _ hv3
  go_region_held3 (fun w' => w'.cell? ⟨w.heap.size + 1, 1, none⟩ = some (.int .i64 (n : Int)))
    (first | go_keep | (rw [hb4.cell (by simp; omega)]; assumption))
    ((go_at_call 67; refine (valueOf_tidy t HT.out _ _ _ hvd hlim).mono ?_; rintro e w4 ⟨A', c', rfl, hRA, hb4⟩; obtain ⟨e0, e1, e2, e3, ef⟩ := val_block ((hb4.block w.heap.size (by simp; omega)).trans HB3.out); have hz4 : w.heap.size + 1 < w4.heap.size := (by have := hb4.size; simp at this; omega)))
  go_wp2_with fail
  have hb4' : Below w3.heap.size w3 w4 := (Below.refl w3.heap.size w3).drew.trans hb4
  have hb04 : Below w.heap.size w w4 := hb3.trans (hb4'.mono (by omega))
  refine bodyPost_ret (v := .tuple #[.agg #[.int .i64 t.k, .int .i64 t.n, .string t.s, .slice A' t.l.length c'], .int .i64 n, .int .i64 0]) (by simp [results, Tryd.results49, go_sem, e0, e1, e2, e3, hz4, show w.heap.size < w4.heap.size by omega]) rfl ⟨_, rfl, ?_, ?_⟩
  · have h1 := hRA.mono (ok' := fun b => w.heap.size + 1 ≤ b) (fun b hb _ => by simp at hb; omega)
    refine (h1.keep ((((Keeps.setCell (Keeps.refl _ _) ⟨w.heap.size, 0, none⟩ ?_ _).setCell ⟨w.heap.size, 1, none⟩ ?_ _).setCell ⟨w.heap.size, 2, none⟩ ?_ _).setCell ⟨w.heap.size, 3, none⟩ ?_ _)).mono (fun b hb _ => by omega)
    all_goals simp
  · exact (((hb04.setCell (Nat.le_refl _) _).setCell (Nat.le_refl _) _).setCell (Nat.le_refl _) _).setCell (Nat.le_refl _) _
end Go.Proofs.YtmepahlmbopacaaDoor.Be
