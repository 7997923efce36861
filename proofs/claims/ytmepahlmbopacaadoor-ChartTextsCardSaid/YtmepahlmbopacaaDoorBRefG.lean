/- What read of the document's answers returns: the value that bytes begin with, or why there is none. Conditions: up to 1000000000 bytes. -/
import Derived.Test.YtmepahlmbopacaaDoorBRefE
import Derived.Lib.IndexBytes
set_option linter.unusedVariables false
set_option linter.unusedSimpArgs false
namespace Go.Proofs.YtmepahlmbopacaaDoor.Be
open Go Go.RowKit

/-- What read returns: the value and how many bytes, or why there is none. -/
def RPost (r : Except Int (T × Nat)) (w : World) (e : Ending) (w' : World) : Prop :=
  match r with
  | .error x => ∃ v k, e = .returned (.tuple #[v, .int .i64 k, .int .i64 x]) ∧ (∃ k0 : Int, v = .agg #[.int .i64 k0, .int .i64 0, .string ⟨#[]⟩, .slice none 0 0]) ∧ Below w.heap.size w w'
  | .ok (t, n) => ∃ v, e = .returned (.tuple #[v, .int .i64 n, .int .i64 0]) ∧ RdA (fun b => w.heap.size ≤ b) w' t v ∧ Below w.heap.size w w'
theorem RPost.err {r : Except Int (T × Nat)} {x k k0 : Int} {w w' : World} {e : Ending} (h : r = .error x) (he : e = .returned (.tuple #[.agg #[.int .i64 k0, .int .i64 0, .string ⟨#[]⟩, .slice none 0 0], .int .i64 k, .int .i64 x])) (hb : Below w.heap.size w w') : RPost r w e w' := by
  subst h
  exact ⟨_, _, he, ⟨_, rfl⟩, hb⟩
theorem RPost.fine {r : Except Int (T × Nat)} {t : T} {n : Nat} {v : Value} {w w' : World} {e : Ending} (h : r = .ok (t, n)) (he : e = .returned (.tuple #[v, .int .i64 n, .int .i64 0])) (hr : RdA (fun b => w.heap.size ≤ b) w' t v) (hb : Below w.heap.size w w') : RPost r w e w' := by
  subst h
  exact ⟨v, he, hr, hb⟩

set_option maxRecDepth 100000 in
set_option maxHeartbeats 8000000 in
theorem read_empty (s : ByteArray) (d : Int) (h0 : ¬ 0 < s.size) (w : World) : Calls Tryd.prog 68 #[.string s, .int .i64 d] w (RPost (.error 21) w) := by
  have hpe : ((s.size : Int) == 0) = true := by rw [beq_iff_eq]; omega
  go_enter Tryd.func68, Tryd.ntmps68
  go_wp2
  refine bodyPost_ret (v := .tuple #[zeroA, .int .i64 0, .int .i64 21]) (by simp [results, Tryd.results68, go_sem, zeroA]) rfl (RPost.err rfl rfl ?_)
  exact (Below.refl _ _).alloc (Nat.le_refl _) _
theorem rdNum_form {r : List UInt8} {t : T} {c : Nat} (h : rdNum r = .ok (t, c)) : t = .mk 1 t.n .empty [] := by
  by_cases hm : r.head? = some 45
  · obtain ⟨r', rfl⟩ : ∃ r', r = 45 :: r' := by
      rcases r with _ | ⟨c, r'⟩
      · simp at hm
      · exact ⟨r', by simp at hm; rw [hm]⟩
    rw [rdNum_minus] at h
    split at h
    · cases h
    · rcases hx : dg 9223372036854775808 101 20 true 0 r' with e | ⟨m, k⟩
      · rw [hx] at h; cases h
      · rw [hx] at h; cases h; rfl
  · rw [rdNum_plus r hm] at h
    rcases hx : dg 9223372036854775807 101 20 true 0 r with e | ⟨m, k⟩
    · rw [hx] at h; cases h
    · rw [hx] at h; cases h; rfl
def NumCalls : Prop := ∀ (s : ByteArray) (hs : s.size ≤ 1000000000) (w : World), Calls Tryd.prog 93 #[.string s] w (NumPost (rdNum s.data.toList) w)
theorem extract_rest (s : ByteArray) (g : Nat) : (s.extract g s.size).data.toList = s.data.toList.drop g := Lib.extract_to_end s g
theorem extract_size (s : ByteArray) (g : Nat) (h : g ≤ s.size) : (s.extract g s.size).size = s.size - g := by simp
set_option maxRecDepth 100000 in
set_option maxHeartbeats 8000000 in
theorem read_num (HN : NumCalls) (s : ByteArray) (d : Nat) (D : Int) (hs : s.size ≤ 1000000000) (h0 : 0 < s.size) (hc : s[0] = 105) (w : World) : Calls Tryd.prog 68 #[.string s, .int .i64 D] w (RPost (rd s.data.toList d) w) := by
  have hd := drop_cons s 0 h0
  rw [List.drop_zero, hc] at hd
  generalize hres : rd s.data.toList d = res
  rw [hd, rd_i] at hres
  have hpe : ((s.size : Int) == 0) = false := by rw [Bool.eq_false_iff, Ne, beq_iff_eq]; omega
  have hpz : (0 : Int) < (s.size : Int) := by omega
  have hcb : ((s[0].toNat : Int) == 105) = true := by rw [u8_lit h0 105 105 rfl]; simpa using hc
  have hnum := HN (s.extract 1 s.size) (by rw [extract_size s 1 (by omega)]; omega) (w.alloc (.cells #[.int .i64 0, .int .i64 0, .string ⟨#[]⟩, .slice none 0 0] 60))
  rw [extract_rest] at hnum
  rw [show 0 + 1 = 1 by rfl] at hres
  clear hd hc
  rcases hx : rdNum (s.data.toList.drop 1) with x | ⟨t, c⟩
  · rw [hx] at hres hnum
    have HNUM := Lib.hid hnum
    have HR := Lib.hid hres.symm
    clear hx hres hnum
    go_enter Tryd.func68, Tryd.ntmps68
    go_wp2_with fail
    refine HNUM.out.mono ?_
    rintro e w1 ⟨rfl, rfl⟩
    go_wp2_with fail
    refine bodyPost_ret (v := .tuple #[.agg #[.int .i64 1, .int .i64 0, .string ⟨#[]⟩, .slice none 0 0], .int .i64 1, .int .i64 x]) (by simp [results, Tryd.results68, go_sem]) rfl (RPost.err HR.out rfl ?_)
    exact (Below.refl _ _).alloc (Nat.le_refl _) _
  · rw [hx] at hres hnum
    have hform := rdNum_form hx
    have HNUM := Lib.hid hnum
    have HR := Lib.hid hres.symm
    have hcc := (rdNum_inv (w := 0) (by omega) hx)
    have hc2 := hcc.ge
    have hc3 := hcc.le
    simp at hc3
    have HF := Lib.hid hform
    clear hx hres hnum hform hcc
    go_enter Tryd.func68, Tryd.ntmps68
    go_wp2_with fail
    refine HNUM.out.mono ?_
    rintro e w1 ⟨rfl, rfl⟩
    go_wp2_with fail
    refine bodyPost_ret (v := .tuple #[.agg #[.int .i64 1, .int .i64 t.n, .string ⟨#[]⟩, .slice none 0 0], .int .i64 c, .int .i64 0]) (by simp [results, Tryd.results68, go_sem]) rfl (RPost.fine HR.out rfl ?_ ?_)
    · rw [HF.out]
      exact ⟨none, 0, [], rfl, by simp [T.s, maxLen], by simp [T.l], by simp [maxLen], ReadsP.none_, rfl⟩
    · exact (Below.refl _ _).alloc (Nat.le_refl _) _
set_option maxRecDepth 100000 in
set_option maxHeartbeats 8000000 in
theorem read_text (s : ByteArray) (d : Nat) (D : Int) (hs : s.size ≤ 1000000000) (h0 : 0 < s.size) (hdg : isDig s[0] = true) (w : World) : Calls Tryd.prog 68 #[.string s, .int .i64 D] w (RPost (rd s.data.toList d) w) := by
  have hd := drop_cons s 0 h0
  rw [List.drop_zero] at hd
  generalize hres : rd s.data.toList d = res
  rw [hd, rd_d _ _ _ hdg, ← hd] at hres
  have hpe : ((s.size : Int) == 0) = false := by rw [Bool.eq_false_iff, Ne, beq_iff_eq]; omega
  have hpz : (0 : Int) < (s.size : Int) := by omega
  have hd1 := isDig_iff.1 hdg
  have hd2 : (48 : Int) ≤ (s[0].toNat : Int) := by omega
  have hd3 : (s[0].toNat : Int) ≤ 57 := by omega
  have hcb : ((s[0].toNat : Int) == 105) = false := by rw [Bool.eq_false_iff, Ne, beq_iff_eq]; omega
  have hlen := length_any s hs (w.alloc (.cells #[.int .i64 0, .int .i64 0, .string ⟨#[]⟩, .slice none 0 0] 60))
  have HDG := Lib.hid hdg
  clear hd hdg hd1
  unfold rdText at hres
  rcases hx : dg 65536 58 23 true 0 s.data.toList with x | ⟨n, k⟩
  · rw [hx] at hres hlen
    have HLEN := Lib.hid hlen
    have HR : Hid (res = .error x) := Lib.hid hres.symm
    have hxs := dg_errs _ _ _ _ _ _ _ hx
    clear hx hres hlen
    rcases hxs with rfl | rfl | rfl
    all_goals
      go_enter Tryd.func68, Tryd.ntmps68
      go_wp2_with fail
      refine HLEN.out.mono ?_
      rintro e w1 ⟨rfl, rfl⟩
      go_wp2_with fail
    · exact bodyPost_ret (v := .tuple #[zeroA, .int .i64 0, .int .i64 20]) (by simp [results, Tryd.results68, go_sem, zeroA]) rfl (RPost.err HR.out rfl ((Below.refl _ _).alloc (Nat.le_refl _) _))
    · exact bodyPost_ret (v := .tuple #[zeroA, .int .i64 0, .int .i64 21]) (by simp [results, Tryd.results68, go_sem, zeroA]) rfl (RPost.err HR.out rfl ((Below.refl _ _).alloc (Nat.le_refl _) _))
    · exact bodyPost_ret (v := .tuple #[zeroA, .int .i64 0, .int .i64 23]) (by simp [results, Tryd.results68, go_sem, zeroA]) rfl (RPost.err HR.out rfl ((Below.refl _ _).alloc (Nat.le_refl _) _))
  · rw [hx] at hres hlen
    have hinv := dg_inv _ _ _ nd58 _ _ _ _ _ (fun _ => rfl) (by omega) hx
    have hn : n ≤ 65536 := hinv.1
    have hk : k ≤ s.size := by
      have := hinv.2.2.1
      simpa using this
    have hl : (s.data.toList.drop k).length = s.size - k := by simp
    simp only [hl] at hres
    have HLEN := Lib.hid hlen
    clear hx hinv hl hlen
    by_cases hsh : s.size - k < n
    · rw [if_pos hsh] at hres
      have HR : Hid (res = .error 21) := Lib.hid hres.symm
      clear hres
      have hz : (s.size : Int) - (k : Int) < (n : Int) := by omega
      go_enter Tryd.func68, Tryd.ntmps68
      go_wp2_with fail
      refine HLEN.out.mono ?_
      rintro e w1 ⟨rfl, rfl⟩
      go_wp2_with fail
      exact bodyPost_ret (v := .tuple #[zeroA, .int .i64 0, .int .i64 21]) (by simp [results, Tryd.results68, go_sem, zeroA]) rfl (RPost.err HR.out rfl ((Below.refl _ _).alloc (Nat.le_refl _) _))
    · rw [if_neg hsh] at hres
      have HR : Hid (res = .ok (.mk 2 0 (s.extract k (k + n)) [], k + n)) := Lib.hid (by rw [extract_eq s k n (by omega)]; exact hres.symm)
      clear hres
      have hz : ¬ (s.size : Int) - (k : Int) < (n : Int) := by omega
      have hq : k + n ≤ s.size := by omega
      go_enter Tryd.func68, Tryd.ntmps68
      go_wp2_with fail
      refine HLEN.out.mono ?_
      rintro e w1 ⟨rfl, rfl⟩
      go_wp2_with fail
      refine bodyPost_ret (v := .tuple #[.agg #[.int .i64 2, .int .i64 0, .string (s.extract k (k + n)), .slice none 0 0], .int .i64 ((k + n : Nat) : Int), .int .i64 0]) (by simp [results, Tryd.results68, go_sem]) rfl (RPost.fine HR.out rfl ?_ ((Below.refl _ _).alloc (Nat.le_refl _) _))
      exact ⟨none, 0, [], rfl, by simp [T.s, maxLen]; omega, by simp [T.l], by simp [maxLen], ReadsP.none_, rfl⟩
set_option maxRecDepth 100000 in
set_option maxHeartbeats 8000000 in
theorem read_deep (s : ByteArray) (d : Nat) (D : Int) (hD : D = (d : Int)) (h8 : 8 ≤ d) (hs : s.size ≤ 1000000000) (h0 : 0 < s.size) (hc : s[0] = 108) (w : World) : Calls Tryd.prog 68 #[.string s, .int .i64 D] w (RPost (rd s.data.toList d) w) := by
  have hd := drop_cons s 0 h0
  rw [List.drop_zero, hc] at hd
  have HR : Hid (rd s.data.toList d = .error 22) := Lib.hid (by rw [hd, rd, if_neg (by decide), if_neg (by decide), if_pos rfl, if_pos h8])
  have hpe : ((s.size : Int) == 0) = false := by rw [Bool.eq_false_iff, Ne, beq_iff_eq]; omega
  have hpz : (0 : Int) < (s.size : Int) := by omega
  have hcb : ((s[0].toNat : Int) == 105) = false := by rw [u8_lit h0 105 105 rfl, hc]; rfl
  have hcl : ((s[0].toNat : Int) == 108) = true := by rw [u8_lit h0 108 108 rfl]; simpa using hc
  have hd3 : (57 : Int) < (s[0].toNat : Int) := by rw [hc]; decide
  have hd2 : (48 : Int) ≤ (s[0].toNat : Int) := by omega
  have h8z : (8 : Int) ≤ D := by omega
  clear hd hc hD
  go_enter Tryd.func68, Tryd.ntmps68
  go_wp2
  exact bodyPost_ret (v := .tuple #[zeroA, .int .i64 0, .int .i64 22]) (by simp [results, Tryd.results68, go_sem, zeroA]) rfl (RPost.err HR.out rfl ((Below.refl _ _).alloc (Nat.le_refl _) _))
set_option maxRecDepth 100000 in
set_option maxHeartbeats 8000000 in
theorem read_bad (s : ByteArray) (d : Nat) (D : Int) (hs : s.size ≤ 1000000000) (h0 : 0 < s.size) (h1 : s[0] ≠ 105) (h2 : isDig s[0] = false) (h3 : s[0] ≠ 108) (w : World) : Calls Tryd.prog 68 #[.string s, .int .i64 D] w (RPost (rd s.data.toList d) w) := by
  have hd := drop_cons s 0 h0
  rw [List.drop_zero] at hd
  have HR : Hid (rd s.data.toList d = .error 20) := Lib.hid (by rw [hd, rd, if_neg h1, if_neg (by rw [h2]; decide), if_neg h3])
  have hpe : ((s.size : Int) == 0) = false := by rw [Bool.eq_false_iff, Ne, beq_iff_eq]; omega
  have hpz : (0 : Int) < (s.size : Int) := by omega
  have hcb : ((s[0].toNat : Int) == 105) = false := by rw [u8_lit h0 105 105 rfl]; simpa using h1
  have hcl : ((s[0].toNat : Int) == 108) = false := by rw [u8_lit h0 108 108 rfl]; simpa using h3
  have hnd : (s[0].toNat : Int) < 48 ∨ (57 : Int) < (s[0].toNat : Int) := by
    by_cases h1 : (s[0].toNat : Int) < 48
    · exact .inl h1
    · refine .inr ?_
      by_cases h2' : (57 : Int) < (s[0].toNat : Int)
      · exact h2'
      · have := isDig_iff.2 (show 48 ≤ s[0].toNat ∧ s[0].toNat ≤ 57 by omega)
        rw [h2] at this
        cases this
  clear hd h1 h2 h3
  rcases hnd with hnd | hnd
  all_goals
    go_enter Tryd.func68, Tryd.ntmps68
    go_wp2
    exact bodyPost_ret (v := .tuple #[zeroA, .int .i64 0, .int .i64 20]) (by simp [results, Tryd.results68, go_sem, zeroA]) rfl (RPost.err HR.out rfl ((Below.refl _ _).alloc (Nat.le_refl _) _))
end Go.Proofs.YtmepahlmbopacaaDoor.Be
