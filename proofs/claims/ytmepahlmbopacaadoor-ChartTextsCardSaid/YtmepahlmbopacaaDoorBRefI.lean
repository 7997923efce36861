/- What Take and Only of the document's answers return. Conditions: up to 1000000000 bytes. -/
import Derived.Test.YtmepahlmbopacaaDoorBRefH
set_option linter.unusedVariables false
set_option linter.unusedSimpArgs false
namespace Go.Proofs.YtmepahlmbopacaaDoor.Be
open Go Go.RowKit

theorem TkPost.of_err {r : Except Int (T × Nat)} {x : Int} {w w' : World} {e : Ending} (h : r = .error x) (he : e = .returned (.tuple #[zeroA, .int .i64 0, .int .i64 x])) (hb : Below w.heap.size w w') : TkPost r w e w' := by
  subst h
  exact ⟨he, hb⟩
theorem TkPost.of_ok {r : Except Int (T × Nat)} {t : T} {n : Nat} {v : Value} {w w' : World} {e : Ending} (h : r = .ok (t, n)) (he : e = .returned (.tuple #[v, .int .i64 n, .int .i64 0])) (hr : RdA (fun b => w.heap.size ≤ b) w' t v) (hb : Below w.heap.size w w') : TkPost r w e w' := by
  subst h
  exact ⟨v, he, hr, hb⟩
set_option maxRecDepth 100000 in
set_option maxHeartbeats 8000000 in
theorem rtake_any (s : ByteArray) (hs : s.size ≤ 1000000000) (w : World) : Calls Tryd.prog 50 #[.string s] w (TkPost (takeRes s.data.toList) w) := by
  have htk := read_any s hs (w.alloc (.cells #[.int .i64 0, .int .i64 0, .string ⟨#[]⟩, .slice none 0 0] 60))
  generalize hres : takeRes s.data.toList = res
  unfold takeRes at hres
  rcases hx : rd s.data.toList 0 with x | ⟨t, n⟩
  · rw [hx] at htk hres
    have HTK := Lib.hid htk
    have HR : Hid (res = .error x) := Lib.hid hres.symm
    have hxs := (rd_errs_all _).1 _ _ _ (Nat.le_refl _) hx
    clear hx htk hres
    have hx0 : (x == 0) = false := by rw [Bool.eq_false_iff, Ne, beq_iff_eq]; omega
    have hxn : (x != 0) = true := by rw [bne, hx0]; rfl
    clear hxs
    go_enter Tryd.func50, Tryd.ntmps50
    go_wp2_with fail
    refine HTK.out.mono ?_
    rintro e w1 ⟨v, k, rfl, ⟨k0, rfl⟩, hb⟩
    obtain ⟨hc, hf⟩ := bcell hb
    have hz : w.heap.size < w1.heap.size := by have := hb.size; simp at this; omega
    go_wp2_with fail
    refine bodyPost_ret (v := .tuple #[zeroA, .int .i64 0, .int .i64 x]) (by simp [results, Tryd.results50, go_sem, hc, hz, zeroA]) rfl (TkPost.of_err HR.out rfl ?_)
    exact (below_four (below_new hb) (Nat.le_refl _) _ _ _ _).alloc (by simp; omega) _
  · rw [hx] at htk hres
    have hle := (rd_inv (by omega) hx).le
    simp at hle hres
    have HTK := Lib.hid htk
    clear hx htk
    by_cases hn : 65536 < n
    · rw [if_pos hn] at hres
      have HR : Hid (res = .error 23) := Lib.hid hres.symm
      clear hres
      have hnz : (65536 : Int) < (n : Int) := by omega
      go_enter Tryd.func50, Tryd.ntmps50
      go_wp2_with fail
      refine HTK.out.mono ?_
      rintro e w1 ⟨v, rfl, hRA, hb⟩
      obtain ⟨A, c, rfl, _⟩ := hRA.rd
      obtain ⟨hc, hf⟩ := bcell hb
      have hz : w.heap.size < w1.heap.size := by have := hb.size; simp at this; omega
      go_wp2_with fail
      refine bodyPost_ret (v := .tuple #[zeroA, .int .i64 0, .int .i64 23]) (by simp [results, Tryd.results50, go_sem, hc, hz, zeroA]) rfl (TkPost.of_err HR.out rfl ?_)
      exact (below_four (below_new hb) (Nat.le_refl _) _ _ _ _).alloc (by simp; omega) _
    · rw [if_neg hn] at hres
      have HR : Hid (res = .ok (t, n)) := Lib.hid hres.symm
      clear hres
      have hnz : ¬ (65536 : Int) < (n : Int) := by omega
      go_enter Tryd.func50, Tryd.ntmps50
      go_wp2_with fail
      refine HTK.out.mono ?_
      rintro e w1 ⟨v, rfl, hRA, hb⟩
      obtain ⟨A, c, rfl, _⟩ := hRA.rd
      obtain ⟨hc, hf⟩ := bcell hb
      have hz : w.heap.size < w1.heap.size := by have := hb.size; simp at this; omega
      go_wp2_with fail
      refine bodyPost_ret (v := .tuple #[.agg #[.int .i64 t.k, .int .i64 t.n, .string t.s, .slice A t.l.length c], .int .i64 n, .int .i64 0]) (by simp [results, Tryd.results50, go_sem, hc, hz]) rfl (TkPost.of_ok HR.out rfl ?_ ?_)
      · have h1 := hRA.mono (ok' := fun b => w.heap.size + 1 ≤ b ∧ b < w1.heap.size) (fun b hb hl => by simp at hb; omega)
        refine (h1.keep ?_).mono (fun b hb _ => by omega)
        exact (keeps_four (Keeps.refl _ _) (by simp; omega) _ _ _ _).alloc _
      · exact (below_four (below_new hb) (Nat.le_refl _) _ _ _ _).alloc (by simp; omega) _
set_option maxRecDepth 100000 in
set_option maxHeartbeats 8000000 in
theorem ronly_any (s : ByteArray) (hs : s.size ≤ 1000000000) (w : World) : Calls Tryd.prog 34 #[.string s] w (OnPost (onlyRes s.data.toList) w) := by
  have htk := rtake_any s hs (w.alloc (.cells #[.int .i64 0, .int .i64 0, .string ⟨#[]⟩, .slice none 0 0] 60))
  generalize hres : onlyRes s.data.toList = res
  unfold onlyRes at hres
  rcases hx : takeRes s.data.toList with x | ⟨t, n⟩
  · rw [hx] at htk hres
    have HTK := Lib.hid htk
    have HR : Hid (res = .error x) := Lib.hid hres.symm
    have hxs := takeRes_errs hx
    clear hx htk hres
    have hx0 : (x == 0) = false := by
      rw [Bool.eq_false_iff, Ne, beq_iff_eq]
      omega
    have hxn : (x != 0) = true := by rw [bne, hx0]; rfl
    clear hxs
    go_enter Tryd.func34, Tryd.ntmps34
    go_wp2_with fail
    refine HTK.out.mono ?_
    rintro e w1 ⟨rfl, hb⟩
    obtain ⟨hc, hf⟩ := bcell hb
    have hz : w.heap.size < w1.heap.size := by have := hb.size; simp at this; omega
    unfold zeroA
    go_wp2_with fail
    refine bodyPost_ret (v := .tuple #[zeroA, .int .i64 x]) (by simp [results, Tryd.results34, go_sem, hc, hz, zeroA]) rfl (OnPost.of_err HR.out rfl ?_)
    exact (below_four (below_new hb) (Nat.le_refl _) _ _ _ _).alloc (by simp; omega) _
  · rw [hx] at htk hres
    have hle := (rd_inv (by omega) (takeRes_ok hx).1).le
    simp at hle hres
    have HTK := Lib.hid htk
    clear hx htk
    by_cases hn : n < s.size
    · rw [if_pos hn] at hres
      have HR : Hid (res = .error 20) := Lib.hid hres.symm
      clear hres
      have hnz : (n : Int) < (s.size : Int) := by omega
      go_enter Tryd.func34, Tryd.ntmps34
      go_wp2_with fail
      refine HTK.out.mono ?_
      rintro e w1 ⟨v, rfl, hRA, hb⟩
      obtain ⟨A, c, rfl, _⟩ := hRA.rd
      obtain ⟨hc, hf⟩ := bcell hb
      have hz : w.heap.size < w1.heap.size := by have := hb.size; simp at this; omega
      go_wp2_with fail
      refine bodyPost_ret (v := .tuple #[zeroA, .int .i64 20]) (by simp [results, Tryd.results34, go_sem, hc, hz, zeroA]) rfl (OnPost.of_err HR.out rfl ?_)
      exact (below_four (below_new hb) (Nat.le_refl _) _ _ _ _).alloc (by simp; omega) _
    · rw [if_neg hn] at hres
      have HR : Hid (res = .ok t) := Lib.hid hres.symm
      clear hres
      have hnz : ¬ (n : Int) < (s.size : Int) := by omega
      go_enter Tryd.func34, Tryd.ntmps34
      go_wp2_with fail
      refine HTK.out.mono ?_
      rintro e w1 ⟨v, rfl, hRA, hb⟩
      obtain ⟨A, c, rfl, _⟩ := hRA.rd
      obtain ⟨hc, hf⟩ := bcell hb
      have hz : w.heap.size < w1.heap.size := by have := hb.size; simp at this; omega
      go_wp2_with fail
      refine bodyPost_ret (v := .tuple #[.agg #[.int .i64 t.k, .int .i64 t.n, .string t.s, .slice A t.l.length c], .int .i64 0]) (by simp [results, Tryd.results34, go_sem, hc, hz]) rfl (OnPost.of_ok HR.out rfl ?_ ?_)
      · have h1 := hRA.mono (ok' := fun b => w.heap.size + 1 ≤ b ∧ b < w1.heap.size) (fun b hb hl => by simp at hb; omega)
        refine (h1.keep ?_).mono (fun b hb _ => by omega)
        exact (keeps_four (Keeps.refl _ _) (by simp; omega) _ _ _ _).alloc _
      · exact (below_four (below_new hb) (Nat.le_refl _) _ _ _ _).alloc (by simp; omega) _
end Go.Proofs.YtmepahlmbopacaaDoor.Be
