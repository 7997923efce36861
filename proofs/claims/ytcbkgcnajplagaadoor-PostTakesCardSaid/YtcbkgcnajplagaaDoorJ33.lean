/- BRefG, BRefH, BRefI, DRefK, DDig in one text. Conditions: as each part says. -/
import Derived.Test.YtcbkgcnajplagaaDoorJ21
import Derived.Lib.IndexBytes
section
set_option linter.unusedVariables false
set_option linter.unusedSimpArgs false
namespace Go.Proofs.YtcbkgcnajplagaaDoor.Be
open Go Go.RowKit

/-- What read returns: the value and how many bytes, or why there is none. -/
def RPost (r : Except Int (T × Nat)) (w : World) (e : Ending) (w' : World) : Prop :=
  match r with
  | .error x => ∃ v k, e = .returned (.tuple #[v, .int .i64 k, .int .i64 x]) ∧ (∃ k0 : Int, v = .agg #[.int .i64 k0, .int .i64 0, .string ⟨#[]⟩, .slice none 0 0]) ∧ Below w.heap.size w w'
  | .ok (t, n) => ∃ v, e = .returned (.tuple #[v, .int .i64 n, .int .i64 0]) ∧ RdA (fun b => w.heap.size ≤ b) w' t v ∧ Below w.heap.size w w'
theorem RPost.err {r : Except Int (T × Nat)} {x k k0 : Int} {w w' : World} {e : Ending} (h : r = .error x) (he : e = .returned (.tuple #[.agg #[.int .i64 k0, .int .i64 0, .string ⟨#[]⟩, .slice none 0 0], .int .i64 k, .int .i64 x])) (hb : Below w.heap.size w w') : RPost r w e w' := by
  subst h
  exact ⟨_, _, he, ⟨_, rfl⟩, hb⟩
theorem RPost.fine {r : Except Int (T × Nat)} {t : T} {n : Nat} {v : Value} {w w' : World} {e : Ending} (h : r = .ok (t, n)) (he : e = .returned (.tuple #[v, .int .i64 n, .int .i64 0])) (hr : RdA (fun b => w.heap.size ≤ b) w' t v) (hb : Below w.heap.size w w') : RPost r w e w' := by
  subst h
  exact ⟨v, he, hr, hb⟩

set_option maxRecDepth 100000 in
set_option maxHeartbeats 8000000 in
theorem read_empty (s : ByteArray) (d : Int) (h0 : ¬ 0 < s.size) (w : World) : Calls Tryd.prog 69 #[.string s, .int .i64 d] w (RPost (.error 21) w) := by
  have hpe : ((s.size : Int) == 0) = true := by rw [beq_iff_eq]; omega
  go_enter Tryd.func69, Tryd.ntmps69
  go_wp2
  refine bodyPost_ret (v := .tuple #[zeroA, .int .i64 0, .int .i64 21]) (by simp [results, Tryd.results69, go_sem, zeroA]) rfl (RPost.err rfl rfl ?_)
  exact (Below.refl _ _).alloc (Nat.le_refl _) _
theorem rdNum_form {r : List UInt8} {t : T} {c : Nat} (h : rdNum r = .ok (t, c)) : t = .mk 1 t.n .empty [] := by
  by_cases hm : r.head? = some 45
  · obtain ⟨r', rfl⟩ : ∃ r', r = 45 :: r' := by
      rcases r with _ | ⟨c, r'⟩
      · simp at hm
      · exact ⟨r', by simp at hm; rw [hm]⟩
    rw [rdNum_minus] at h
    split at h
    · cases h
    · rcases hx : dg 9223372036854775808 101 20 true 0 r' with e | ⟨m, k⟩
      · rw [hx] at h; cases h
      · rw [hx] at h; cases h; rfl
  · rw [rdNum_plus r hm] at h
    rcases hx : dg 9223372036854775807 101 20 true 0 r with e | ⟨m, k⟩
    · rw [hx] at h; cases h
    · rw [hx] at h; cases h; rfl
def NumCalls : Prop := ∀ (s : ByteArray) (hs : s.size ≤ 1000000000) (w : World), Calls Tryd.prog 77 #[.string s] w (NumPost (rdNum s.data.toList) w)
theorem extract_rest (s : ByteArray) (g : Nat) : (s.extract g s.size).data.toList = s.data.toList.drop g := Lib.extract_to_end s g
theorem extract_size (s : ByteArray) (g : Nat) (h : g ≤ s.size) : (s.extract g s.size).size = s.size - g := by simp
set_option maxRecDepth 100000 in
set_option maxHeartbeats 8000000 in
theorem read_num (HN : NumCalls) (s : ByteArray) (d : Nat) (D : Int) (hs : s.size ≤ 1000000000) (h0 : 0 < s.size) (hc : s[0] = 105) (w : World) : Calls Tryd.prog 69 #[.string s, .int .i64 D] w (RPost (rd s.data.toList d) w) := by
  have hd := drop_cons s 0 h0
  rw [List.drop_zero, hc] at hd
  generalize hres : rd s.data.toList d = res
  rw [hd, rd_i] at hres
  have hpe : ((s.size : Int) == 0) = false := by rw [Bool.eq_false_iff, Ne, beq_iff_eq]; omega
  have hpz : (0 : Int) < (s.size : Int) := by omega
  have hcb : ((s[0].toNat : Int) == 105) = true := by rw [u8_lit h0 105 105 rfl]; simpa using hc
  have hnum := HN (s.extract 1 s.size) (by rw [extract_size s 1 (by omega)]; omega) (w.alloc (.cells #[.int .i64 0, .int .i64 0, .string ⟨#[]⟩, .slice none 0 0] 47))
  rw [extract_rest] at hnum
  rw [show 0 + 1 = 1 by rfl] at hres
  clear hd hc
  rcases hx : rdNum (s.data.toList.drop 1) with x | ⟨t, c⟩
  · rw [hx] at hres hnum
    have HNUM := Lib.hid hnum
    have HR := Lib.hid hres.symm
    clear hx hres hnum
    go_enter Tryd.func69, Tryd.ntmps69
    go_wp2_with fail
    refine HNUM.out.mono ?_
    rintro e w1 ⟨rfl, rfl⟩
    go_wp2_with fail
    refine bodyPost_ret (v := .tuple #[.agg #[.int .i64 1, .int .i64 0, .string ⟨#[]⟩, .slice none 0 0], .int .i64 1, .int .i64 x]) (by simp [results, Tryd.results69, go_sem]) rfl (RPost.err HR.out rfl ?_)
    exact (Below.refl _ _).alloc (Nat.le_refl _) _
  · rw [hx] at hres hnum
    have hform := rdNum_form hx
    have HNUM := Lib.hid hnum
    have HR := Lib.hid hres.symm
    have hcc := (rdNum_inv (w := 0) (by omega) hx)
    have hc2 := hcc.ge
    have hc3 := hcc.le
    simp at hc3
    have HF := Lib.hid hform
    clear hx hres hnum hform hcc
    go_enter Tryd.func69, Tryd.ntmps69
    go_wp2_with fail
    refine HNUM.out.mono ?_
    rintro e w1 ⟨rfl, rfl⟩
    go_wp2_with fail
    refine bodyPost_ret (v := .tuple #[.agg #[.int .i64 1, .int .i64 t.n, .string ⟨#[]⟩, .slice none 0 0], .int .i64 c, .int .i64 0]) (by simp [results, Tryd.results69, go_sem]) rfl (RPost.fine HR.out rfl ?_ ?_)
    · rw [HF.out]
      exact ⟨none, 0, [], rfl, by simp [T.s, maxLen], by simp [T.l], by simp [maxLen], ReadsP.none_, rfl⟩
    · exact (Below.refl _ _).alloc (Nat.le_refl _) _
set_option maxRecDepth 100000 in
set_option maxHeartbeats 8000000 in
theorem read_text (s : ByteArray) (d : Nat) (D : Int) (hs : s.size ≤ 1000000000) (h0 : 0 < s.size) (hdg : isDig s[0] = true) (w : World) : Calls Tryd.prog 69 #[.string s, .int .i64 D] w (RPost (rd s.data.toList d) w) := by
  have hd := drop_cons s 0 h0
  rw [List.drop_zero] at hd
  generalize hres : rd s.data.toList d = res
  rw [hd, rd_d _ _ _ hdg, ← hd] at hres
  have hpe : ((s.size : Int) == 0) = false := by rw [Bool.eq_false_iff, Ne, beq_iff_eq]; omega
  have hpz : (0 : Int) < (s.size : Int) := by omega
  have hd1 := isDig_iff.1 hdg
  have hd2 : (48 : Int) ≤ (s[0].toNat : Int) := by omega
  have hd3 : (s[0].toNat : Int) ≤ 57 := by omega
  have hcb : ((s[0].toNat : Int) == 105) = false := by rw [Bool.eq_false_iff, Ne, beq_iff_eq]; omega
  have hlen := length_any s hs (w.alloc (.cells #[.int .i64 0, .int .i64 0, .string ⟨#[]⟩, .slice none 0 0] 47))
  have HDG := Lib.hid hdg
  clear hd hdg hd1
  unfold rdText at hres
  rcases hx : dg 65536 58 23 true 0 s.data.toList with x | ⟨n, k⟩
  · rw [hx] at hres hlen
    have HLEN := Lib.hid hlen
    have HR : Hid (res = .error x) := Lib.hid hres.symm
    have hxs := dg_errs _ _ _ _ _ _ _ hx
    clear hx hres hlen
    rcases hxs with rfl | rfl | rfl
    all_goals
      go_enter Tryd.func69, Tryd.ntmps69
      go_wp2_with fail
      refine HLEN.out.mono ?_
      rintro e w1 ⟨rfl, rfl⟩
      go_wp2_with fail
    · exact bodyPost_ret (v := .tuple #[zeroA, .int .i64 0, .int .i64 20]) (by simp [results, Tryd.results69, go_sem, zeroA]) rfl (RPost.err HR.out rfl ((Below.refl _ _).alloc (Nat.le_refl _) _))
    · exact bodyPost_ret (v := .tuple #[zeroA, .int .i64 0, .int .i64 21]) (by simp [results, Tryd.results69, go_sem, zeroA]) rfl (RPost.err HR.out rfl ((Below.refl _ _).alloc (Nat.le_refl _) _))
    · exact bodyPost_ret (v := .tuple #[zeroA, .int .i64 0, .int .i64 23]) (by simp [results, Tryd.results69, go_sem, zeroA]) rfl (RPost.err HR.out rfl ((Below.refl _ _).alloc (Nat.le_refl _) _))
  · rw [hx] at hres hlen
    have hinv := dg_inv _ _ _ nd58 _ _ _ _ _ (fun _ => rfl) (by omega) hx
    have hn : n ≤ 65536 := hinv.1
    have hk : k ≤ s.size := by
      have := hinv.2.2.1
      simpa using this
    have hl : (s.data.toList.drop k).length = s.size - k := by simp
    simp only [hl] at hres
    have HLEN := Lib.hid hlen
    clear hx hinv hl hlen
    by_cases hsh : s.size - k < n
    · rw [if_pos hsh] at hres
      have HR : Hid (res = .error 21) := Lib.hid hres.symm
      clear hres
      have hz : (s.size : Int) - (k : Int) < (n : Int) := by omega
      go_enter Tryd.func69, Tryd.ntmps69
      go_wp2_with fail
      refine HLEN.out.mono ?_
      rintro e w1 ⟨rfl, rfl⟩
      go_wp2_with fail
      exact bodyPost_ret (v := .tuple #[zeroA, .int .i64 0, .int .i64 21]) (by simp [results, Tryd.results69, go_sem, zeroA]) rfl (RPost.err HR.out rfl ((Below.refl _ _).alloc (Nat.le_refl _) _))
    · rw [if_neg hsh] at hres
      have HR : Hid (res = .ok (.mk 2 0 (s.extract k (k + n)) [], k + n)) := Lib.hid (by rw [extract_eq s k n (by omega)]; exact hres.symm)
      clear hres
      have hz : ¬ (s.size : Int) - (k : Int) < (n : Int) := by omega
      have hq : k + n ≤ s.size := by omega
      go_enter Tryd.func69, Tryd.ntmps69
      go_wp2_with fail
      refine HLEN.out.mono ?_
      rintro e w1 ⟨rfl, rfl⟩
      go_wp2_with fail
      refine bodyPost_ret (v := .tuple #[.agg #[.int .i64 2, .int .i64 0, .string (s.extract k (k + n)), .slice none 0 0], .int .i64 ((k + n : Nat) : Int), .int .i64 0]) (by simp [results, Tryd.results69, go_sem]) rfl (RPost.fine HR.out rfl ?_ ((Below.refl _ _).alloc (Nat.le_refl _) _))
      exact ⟨none, 0, [], rfl, by simp [T.s, maxLen]; omega, by simp [T.l], by simp [maxLen], ReadsP.none_, rfl⟩
set_option maxRecDepth 100000 in
set_option maxHeartbeats 8000000 in
theorem read_deep (s : ByteArray) (d : Nat) (D : Int) (hD : D = (d : Int)) (h8 : 8 ≤ d) (hs : s.size ≤ 1000000000) (h0 : 0 < s.size) (hc : s[0] = 108) (w : World) : Calls Tryd.prog 69 #[.string s, .int .i64 D] w (RPost (rd s.data.toList d) w) := by
  have hd := drop_cons s 0 h0
  rw [List.drop_zero, hc] at hd
  have HR : Hid (rd s.data.toList d = .error 22) := Lib.hid (by rw [hd, rd, if_neg (by decide), if_neg (by decide), if_pos rfl, if_pos h8])
  have hpe : ((s.size : Int) == 0) = false := by rw [Bool.eq_false_iff, Ne, beq_iff_eq]; omega
  have hpz : (0 : Int) < (s.size : Int) := by omega
  have hcb : ((s[0].toNat : Int) == 105) = false := by rw [u8_lit h0 105 105 rfl, hc]; rfl
  have hcl : ((s[0].toNat : Int) == 108) = true := by rw [u8_lit h0 108 108 rfl]; simpa using hc
  have hd3 : (57 : Int) < (s[0].toNat : Int) := by rw [hc]; decide
  have hd2 : (48 : Int) ≤ (s[0].toNat : Int) := by omega
  have h8z : (8 : Int) ≤ D := by omega
  clear hd hc hD
  go_enter Tryd.func69, Tryd.ntmps69
  go_wp2
  exact bodyPost_ret (v := .tuple #[zeroA, .int .i64 0, .int .i64 22]) (by simp [results, Tryd.results69, go_sem, zeroA]) rfl (RPost.err HR.out rfl ((Below.refl _ _).alloc (Nat.le_refl _) _))
set_option maxRecDepth 100000 in
set_option maxHeartbeats 8000000 in
theorem read_bad (s : ByteArray) (d : Nat) (D : Int) (hs : s.size ≤ 1000000000) (h0 : 0 < s.size) (h1 : s[0] ≠ 105) (h2 : isDig s[0] = false) (h3 : s[0] ≠ 108) (w : World) : Calls Tryd.prog 69 #[.string s, .int .i64 D] w (RPost (rd s.data.toList d) w) := by
  have hd := drop_cons s 0 h0
  rw [List.drop_zero] at hd
  have HR : Hid (rd s.data.toList d = .error 20) := Lib.hid (by rw [hd, rd, if_neg h1, if_neg (by rw [h2]; decide), if_neg h3])
  have hpe : ((s.size : Int) == 0) = false := by rw [Bool.eq_false_iff, Ne, beq_iff_eq]; omega
  have hpz : (0 : Int) < (s.size : Int) := by omega
  have hcb : ((s[0].toNat : Int) == 105) = false := by rw [u8_lit h0 105 105 rfl]; simpa using h1
  have hcl : ((s[0].toNat : Int) == 108) = false := by rw [u8_lit h0 108 108 rfl]; simpa using h3
  have hnd : (s[0].toNat : Int) < 48 ∨ (57 : Int) < (s[0].toNat : Int) := by
    by_cases h1 : (s[0].toNat : Int) < 48
    · exact .inl h1
    · refine .inr ?_
      by_cases h2' : (57 : Int) < (s[0].toNat : Int)
      · exact h2'
      · have := isDig_iff.2 (show 48 ≤ s[0].toNat ∧ s[0].toNat ≤ 57 by omega)
        rw [h2] at this
        cases this
  clear hd h1 h2 h3
  rcases hnd with hnd | hnd
  all_goals
    go_enter Tryd.func69, Tryd.ntmps69
    go_wp2
    exact bodyPost_ret (v := .tuple #[zeroA, .int .i64 0, .int .i64 20]) (by simp [results, Tryd.results69, go_sem, zeroA]) rfl (RPost.err HR.out rfl ((Below.refl _ _).alloc (Nat.le_refl _) _))
end Go.Proofs.YtcbkgcnajplagaaDoor.Be
end
section
set_option linter.unusedVariables false
set_option linter.unusedSimpArgs false
namespace Go.Proofs.YtcbkgcnajplagaaDoor.Be
open Go Go.RowKit

theorem append_value_at {ops : Array Oper} {rest : List Oper} {o : Oper} {a : Act} {Q : Exit → Act → World → Prop} {W : World} (hgd : o.guard = none) (s x : Operand)
    (ho : o.op = .call { callee := .builtin .append, args := #[s, x], argTypes := #[45, 45] })
    (base : Nat) (v : Value) (n : Nat) (xs : List Value) (c0 c1 c2 c3 : Value) (hy : ∀ u ∈ [c0, c1, c2, c3], u.oneCell' = true) (hs : a.eval s = v) (hown : W.ownsRow base 47 4 v n xs) (N : Nat) (hN : N = W.heap.size) (hx : a.eval x = .slice (some ⟨N, 0, none⟩) 1 1)
    (hn : n ≤ 1000000000) (hbase : base ≤ W.heap.size)
    (h : ∀ v' w', w'.ownsRow base 47 4 v' (n + 1) (xs ++ [c0, c1, c2, c3]) → W.grownBy w' v.ownBlock → (v'.ownBlock = v.ownBlock ∨ ∀ k, v'.ownBlock = some k → W.heap.size ≤ k) → wpList Tryd.prog ops Q rest (a.put o.dst v') w') :
    wpList Tryd.prog ops Q (o :: rest) a (W.alloc (.cells #[c0, c1, c2, c3] 47)) := by
  subst hN
  exact append_value hgd s x ho base v n xs c0 c1 c2 c3 hy hs hown hx hn hbase h
set_option maxRecDepth 100000 in
set_option maxHeartbeats 8000000 in
theorem rnumber_nought (s : ByteArray) (h0 : 0 < s.size) (h45 : s[0] = 45) (h48 : (s.data.toList.drop 1).head? = some 48) (hs : s.size ≤ 1000000000) (w : World) : Calls Tryd.prog 77 #[.string s] w (NumPost (rdNum s.data.toList) w) := by
  have hfirst : ((s[0].toNat : Int) == 45) = true := by rw [u8_lit h0 45 45 rfl]; simpa using h45
  have h0z : (0 : Int) < (s.size : Int) := by omega
  have hd := drop_cons s 0 h0
  rw [List.drop_zero, h45] at hd
  have HF : Hid (rdNum s.data.toList = .error 20) := Lib.hid (by rw [hd, rdNum_minus, if_pos (by rw [hd] at h48; simpa using h48)])
  have h1 : 1 < s.size := by
    by_cases hx : 1 < s.size
    · exact hx
    · rw [drop_nil s _ hx] at h48; cases h48
  have h1z : (1 : Int) < (s.size : Int) := by omega
  have h1e : ((1 : Int) == (s.size : Int)) = false := by rw [Bool.eq_false_iff, Ne, beq_iff_eq]; omega
  rw [drop_cons s 1 h1] at h48
  simp only [List.head?_cons, Option.some.injEq] at h48
  have k0 : ((s[1].toNat : Int) == 101) = false := by rw [u8_lit h1 101 101 rfl, h48]; rfl
  have k1 : (48 : Int) ≤ (s[1].toNat : Int) := by rw [h48]; decide
  have k2 : (s[1].toNat : Int) ≤ 57 := by rw [h48]; decide
  have k3 : ((s[1].toNat : Int) == 48) = true := by rw [u8_lit h1 48 48 rfl]; simpa using h48
  clear h45 h48 hd
  go_enter Tryd.func77, Tryd.ntmps77
  go_wp2
  refine wp_loop_rounds 1 ?_
  rw [rounds_succ]
  go_wp2
  go_ret3
  exact NumPost.err HF.out rfl rfl
theorem num_calls : NumCalls := by
  intro s hs w
  by_cases h : s.data.toList.head? = some 45
  · have h0 : 0 < s.size := by
      by_cases hx : 0 < s.size
      · exact hx
      · have := drop_nil s 0 hx
        rw [List.drop_zero] at this
        rw [this] at h; cases h
    have hd := drop_cons s 0 h0
    rw [List.drop_zero] at hd
    have h45 : s[0] = 45 := by rw [hd] at h; simpa using h
    by_cases h48 : (s.data.toList.drop 1).head? = some 48
    · exact rnumber_nought s h0 h45 h48 hs w
    · exact rnumber_neg s h0 h45 h48 hs w
  · exact rnumber_pos s h hs w
/-- What holds at the head of each round of a list's reading. -/
structure RRel (rl : Except Int (List T × Nat)) (s : ByteArray) (d : Nat) (w : World) (wr : World) (g : Nat) (ts : List T) (xs : List Value) (u : Value) : Prop where
  lo : 1 ≤ g
  hi : g ≤ s.size
  bel : Below w.heap.size w wr
  res : wr.heap[w.heap.size]? = some (.cells #[.int .i64 0, .int .i64 0, .string ⟨#[]⟩, .slice none 0 0] 47 (0, 0))
  lst : wr.heap[w.heap.size + 1]? = some (.cells #[.int .i64 3, .int .i64 0, .string ⟨#[]⟩, u] 47 (0, 0))
  own : wr.ownsRow (w.heap.size + 2) 47 4 u ts.length xs
  rdl : RdL (fun b => w.heap.size + 2 ≤ b ∧ some b ≠ u.ownBlock) wr ts xs
  few : ts.length ≤ g
  rest : rl = prep ts (g - 1) (rdL (s.data.toList.drop g) d)

theorem step_lst {rl : Except Int (List T × Nat)} {s : ByteArray} {d : Nat} {w wr w1 w2 : World} {g : Nat} {ts : List T} {xs : List Value} {u : Value} {o : Obj} (hR : RRel rl s d w wr g ts xs u) (hz2 : w.heap.size + 1 < wr.heap.size) (hb1 : Below wr.heap.size wr w1) (hgr : (w1.alloc o).grownBy w2 u.ownBlock) :
    w2.heap[w.heap.size + 1]? = some (.cells #[.int .i64 3, .int .i64 0, .string ⟨#[]⟩, u] 47 (0, 0)) := by
  have hs1 := hb1.size
  have hlt := own_lt hR.own
  rw [hgr.block (w.heap.size + 1) (by simp; omega) (fun e => by have := (hlt _ e.symm).1; omega), Below.heap_alloc _ _ _ (by omega), hb1.block _ hz2]
  exact hR.lst
theorem step_res {rl : Except Int (List T × Nat)} {s : ByteArray} {d : Nat} {w wr w1 w2 : World} {g : Nat} {ts : List T} {xs : List Value} {u : Value} {o : Obj} (hR : RRel rl s d w wr g ts xs u) (hz2 : w.heap.size + 1 < wr.heap.size) (hb1 : Below wr.heap.size wr w1) (hgr : (w1.alloc o).grownBy w2 u.ownBlock) :
    w2.heap[w.heap.size]? = some (.cells #[.int .i64 0, .int .i64 0, .string ⟨#[]⟩, .slice none 0 0] 47 (0, 0)) := by
  have hs1 := hb1.size
  have hlt := own_lt hR.own
  rw [hgr.block w.heap.size (by simp; omega) (fun e => by have := (hlt _ e.symm).1; omega), Below.heap_alloc _ _ _ (by omega), hb1.block _ (by omega)]
  exact hR.res
theorem rrel_step {rl : Except Int (List T × Nat)} {s : ByteArray} {d : Nat} {w wr w1 w2 : World} {g n : Nat} {ts : List T} {xs cs : List Value} {u v2 : Value} {t : T} (hR : RRel rl s d w wr g ts xs u) (hlt : g < s.size) (h101 : s[g] ≠ 101) (hx : rd (s.data.toList.drop g) d = .ok (t, n)) (hd : d ≤ 8)
    (hb1 : Below wr.heap.size wr w1) (hRd : Rd (fun b => wr.heap.size ≤ b) w1 t cs) (o : Obj) (hown2 : w2.ownsRow (w.heap.size + 2) 47 4 v2 (ts.length + 1) (xs ++ cs)) (hgr : (w1.alloc o).grownBy w2 u.ownBlock)
    (hob : v2.ownBlock = u.ownBlock ∨ ∀ k, v2.ownBlock = some k → (w1.alloc o).heap.size ≤ k) : RRel rl s d w (w2.setCell ⟨w.heap.size + 1, 3, none⟩ v2) (g + n) (ts ++ [t]) (xs ++ cs) v2 := by
  have hz2 : w.heap.size + 1 < wr.heap.size := (Array.getElem?_eq_some_iff.1 hR.lst).1
  have hs1 := hb1.size
  have hl := own_lt hR.own
  have hinv := rd_inv hd hx
  have hn := hinv.le
  have hn2 := hinv.ge
  simp at hn
  have hlo := hR.lo
  have hfew := hR.few
  have hlst := step_lst hR hz2 hb1 hgr
  have hres := step_res hR hz2 hb1 hgr
  have hb01 : Below w.heap.size w w1 := hR.bel.trans (hb1.mono (by omega))
  refine ⟨by omega, by omega, ?_, ?_, ?_, ?_, ?_, by simp; omega, ?_⟩
  · exact ((hb01.alloc (by omega) o).grown hgr (by simp; omega) (fun k hk => by have := (hl k hk).1; omega)).setCell (by simp) _
  · rw [Below.heap_setCell _ _ _ _ (by simp)]
    exact hres
  · have := (Array.getElem?_eq_some_iff.1 hlst).1
    simp only [World.setCell, Array.getElem?_modify, hlst]
    simp
  · have := ownsRow_setCell_below hown2 (a := ⟨w.heap.size + 1, 3, none⟩) (by simp) v2
    simpa using this
  · have k0 : Keeps (fun b => w.heap.size + 2 ≤ b ∧ some b ≠ u.ownBlock) wr (w1.alloc o) := (Keeps.of_below hb1 (fun b _ h => h)).alloc o
    have k1 : Keeps (fun b => wr.heap.size ≤ b) w1 (w1.alloc o) := (Keeps.refl _ _).alloc o
    have h1 := rdl_more (B := w.heap.size + 2) (w0 := wr) (RdL.keep k0 _ _ hR.rdl) (Rd.keep k1 _ _ hRd) (by omega) (fun k hk => (hl k hk).2) hgr hob
    exact RdL.keep ((Keeps.refl _ _).setCell _ (fun h => by have := h.1; simp at this) _) _ _ h1
  · rw [hR.rest, prep_step ts (g - 1) _ d _ _ (drop_cons s g hlt) h101 t n (by omega) hx, List.drop_drop]
    congr 1
    omega
set_option maxRecDepth 100000 in
set_option maxHeartbeats 8000000 in
theorem read_list (N : Nat) (ih : ∀ (s : ByteArray) (d : Nat) (D : Int) (w : World), D = (d : Int) → d ≤ 8 → s.size < N → s.size ≤ 1000000000 → Calls Tryd.prog 69 #[.string s, .int .i64 D] w (RPost (rd s.data.toList d) w))
    (s : ByteArray) (d : Nat) (D : Int) (hD : D = (d : Int)) (h8 : d < 8) (hN : s.size ≤ N) (hs : s.size ≤ 1000000000) (h0 : 0 < s.size) (hc : s[0] = 108) (w : World) : Calls Tryd.prog 69 #[.string s, .int .i64 D] w (RPost (rd s.data.toList d) w) := by
  have hd := drop_cons s 0 h0
  rw [List.drop_zero, hc] at hd
  generalize hres : rd s.data.toList d = res
  rw [hd, rd_l _ _ h8] at hres
  rw [show 0 + 1 = 1 by rfl] at hres
  generalize hrl : rdL (s.data.toList.drop 1) (d + 1) = rl at hres
  have HRL := Lib.hid hrl
  have HR := Lib.hid hres
  have hpe : ((s.size : Int) == 0) = false := by rw [Bool.eq_false_iff, Ne, beq_iff_eq]; omega
  have hpz : (0 : Int) < (s.size : Int) := by omega
  have hcb : ((s[0].toNat : Int) == 105) = false := by rw [u8_lit h0 105 105 rfl, hc]; rfl
  have hcl : ((s[0].toNat : Int) == 108) = true := by rw [u8_lit h0 108 108 rfl]; simpa using hc
  have hd3 : (57 : Int) < (s[0].toNat : Int) := by rw [hc]; decide
  have hd2 : (48 : Int) ≤ (s[0].toNat : Int) := by omega
  have h8z : D < 8 := by omega
  have h8p : 0 ≤ D := by omega
  have HDD := Lib.hid hD
  clear hd hc hD hrl hres
  have hst1 : ((w.alloc (.cells #[.int .i64 0, .int .i64 0, .string ⟨#[]⟩, .slice none 0 0] 47)).alloc (.cells #[.int .i64 3, .int .i64 0, .string ⟨#[]⟩, .slice none 0 0] 47)).heap[w.heap.size]? = some (.cells #[.int .i64 0, .int .i64 0, .string ⟨#[]⟩, .slice none 0 0] 47 (0, 0)) := by
    rw [Below.heap_alloc _ _ _ (by simp)]
    exact heap_alloc_new w _
  have hst2 : ((w.alloc (.cells #[.int .i64 0, .int .i64 0, .string ⟨#[]⟩, .slice none 0 0] 47)).alloc (.cells #[.int .i64 3, .int .i64 0, .string ⟨#[]⟩, .slice none 0 0] 47)).heap[w.heap.size + 1]? = some (.cells #[.int .i64 3, .int .i64 0, .string ⟨#[]⟩, .slice none 0 0] 47 (0, 0)) := by
    have := heap_alloc_new (w.alloc (.cells #[.int .i64 0, .int .i64 0, .string ⟨#[]⟩, .slice none 0 0] 47)) (.cells #[.int .i64 3, .int .i64 0, .string ⟨#[]⟩, .slice none 0 0] 47)
    simpa using this
  have hst3 : Below w.heap.size w ((w.alloc (.cells #[.int .i64 0, .int .i64 0, .string ⟨#[]⟩, .slice none 0 0] 47)).alloc (.cells #[.int .i64 3, .int .i64 0, .string ⟨#[]⟩, .slice none 0 0] 47)) := ((Below.refl _ _).alloc (Nat.le_refl _) _).alloc (by simp) _
  go_enter Tryd.func69, Tryd.ntmps69
  go_wp2_with fail
  generalize (w.alloc (.cells #[.int .i64 0, .int .i64 0, .string ⟨#[]⟩, .slice none 0 0] 47)).alloc (.cells #[.int .i64 3, .int .i64 0, .string ⟨#[]⟩, .slice none 0 0] 47) = w0 at hst1 hst2 hst3
  have H1 := Lib.hid hst1
  have H2 := Lib.hid hst2
  clear hst1 hst2
  go_loopw [15] (fun i wr => ∃ (g : Nat) (ts : List T) (xs : List Value) (u : Value), i = .int .i64 (g : Int) ∧ RRel rl s (d + 1) w wr g ts xs u) (fun i _ => s.size - (intOf i).toNat)
  case atStart => exact ⟨1, [], [], .slice none 0 0, rfl, Nat.le_refl _, by omega, hst3, H1.out, H2.out, World.ownsRow_nil .., rfl, by simp, by rw [Nat.sub_self, prep_nil]; exact HRL.out.symm⟩
  case round =>
    obtain ⟨g, ts, xs, u, rfl, hR⟩ := hrel
    have hlo := hR.lo
    have hbel := hR.bel
    have hz1 : w.heap.size < wr.heap.size := (Array.getElem?_eq_some_iff.1 hR.res).1
    have hz2 : w.heap.size + 1 < wr.heap.size := (Array.getElem?_eq_some_iff.1 hR.lst).1
    obtain ⟨a0, a1, a2, a3, af⟩ := val_block hR.res
    obtain ⟨b0, b1, b2, b3, bf⟩ := val_block hR.lst
    have hgz : (g : Int) ≤ (s.size : Int) := by have := hR.hi; omega
    have hext : (s.extract g s.size).size = s.size - g := extract_size s g hR.hi
    by_cases hend : ∃ h : g < s.size, s[g] = 101
    · obtain ⟨hlt, h101⟩ := hend
      have hltz : (g : Int) < (s.size : Int) := by omega
      have k101 : ((s[g].toNat : Int) == 101) = true := by rw [u8_lit hlt 101 101 rfl]; simpa using h101
      have HE : Hid (res = .ok (.mk 3 0 .empty ts, g + 1)) := Lib.hid (by
        rw [← HR.out, hR.rest, drop_cons s g hlt, h101, rdL_e]
        simp only [prep, List.append_nil]
        rw [show g - 1 + 1 + 1 = g + 1 by omega])
      clear h101
      have hown := hR.own
      obtain ⟨A2, c2, rfl, hl2, hc2⟩ := own_shape hown
      go_wp2_with fail
      refine bodyPost_ret (v := .tuple #[.agg #[.int .i64 3, .int .i64 0, .string ⟨#[]⟩, .slice A2 ts.length c2], .int .i64 ((g + 1 : Nat) : Int), .int .i64 0]) (by simp [results, Tryd.results69, go_sem, a0, a1, a2, a3, hz1]) rfl (RPost.fine HE.out rfl ?_ ?_)
      · refine ⟨A2, c2, xs, rfl, by simp [T.s, maxLen], hl2, hc2, ?_, ?_⟩
        · exact ((ReadsP.of_own hown).mono (ok' := fun b => w.heap.size + 2 ≤ b) (fun b hb _ => hb)).keep (keeps_four (Keeps.refl _ _) (by simp) _ _ _ _) |>.mono (fun b hb _ => by omega)
        · exact RdL.mono (fun b hb _ => by omega) _ _ (RdL.keep (keeps_four (ok := fun b => w.heap.size + 2 ≤ b) (Keeps.refl _ _) (by simp) _ _ _ _) _ _ (RdL.mono (fun b hb _ => hb.1) _ _ hR.rdl))
      · exact below_four hbel (Nat.le_refl _) _ _ _ _
    · have hguard : (∃ h : g < s.size, ((s[g].toNat : Int) == 101) = false) ∨ ¬ (g : Int) < (s.size : Int) := by
        by_cases hlt : g < s.size
        · refine .inl ⟨hlt, ?_⟩
          rw [u8_lit hlt 101 101 rfl]
          simp only [decide_eq_false_iff_not]
          exact fun e => hend ⟨hlt, e⟩
        · exact .inr (by omega)
      have hsub : D + 1 = ((d + 1 : Nat) : Int) := by have := HDD.out; omega
      have hcall := ih (s.extract g s.size) (d + 1) (D + 1) wr hsub (by omega) (by omega) (by omega)
      rw [extract_rest] at hcall
      clear hsub
      rcases hx : rd (s.data.toList.drop g) (d + 1) with x | ⟨t, n⟩
      · rw [hx] at hcall
        have HC := Lib.hid hcall
        have HE : Hid (res = .error x) := Lib.hid (by
          rw [← HR.out, hR.rest]
          by_cases hlt : g < s.size
          · rw [prep_err ts _ _ _ _ _ (drop_cons s g hlt) (fun e => hend ⟨hlt, e⟩) x hx]
          · rw [drop_nil s g hlt, rd] at hx
            cases hx
            rw [drop_nil s g hlt, rdL]
            rfl)
        have hxs := (rd_errs_all _).1 _ _ _ (Nat.le_refl _) hx
        have hx0 : (x == 0) = false := by rw [Bool.eq_false_iff, Ne, beq_iff_eq]; omega
        have hxn : (x != 0) = true := by rw [bne, hx0]; rfl
        clear hx hcall hxs hend
        rcases hguard with ⟨hlt, k101⟩ | hltz
        case' inl => have hltz : (g : Int) < (s.size : Int) := by omega
        all_goals
          go_wp2_with fail
          refine HC.out.mono ?_
          rintro e w1 ⟨v, k, rfl, ⟨k0, rfl⟩, hb1⟩
          obtain ⟨e0, e1, e2, e3, ef⟩ := val_block ((hb1.block w.heap.size hz1).trans hR.res)
          have hz3 : w.heap.size < w1.heap.size := Nat.lt_of_lt_of_le hz1 hb1.size
          go_wp2_with fail
          refine bodyPost_ret (v := .tuple #[zeroA, .int .i64 0, .int .i64 x]) (by simp [results, Tryd.results69, go_sem, zeroA, e0, e1, e2, e3, hz3]) rfl (RPost.err HE.out rfl ?_)
          exact (below_four (hbel.trans (hb1.mono (by omega))) (Nat.le_refl _) _ _ _ _).alloc (by simp; omega) _
      · have hlt : g < s.size := by
          by_cases hlt : g < s.size
          · exact hlt
          · rw [drop_nil s g hlt, rd] at hx; cases hx
        have h101 : s[g] ≠ 101 := fun e => hend ⟨hlt, e⟩
        rw [hx] at hcall
        have HC := Lib.hid hcall
        have HX := Lib.hid hx
        have hltz : (g : Int) < (s.size : Int) := by omega
        have k101 : ((s[g].toNat : Int) == 101) = false := by rw [u8_lit hlt 101 101 rfl]; simpa using h101
        have H101 := Lib.hid h101
        have hn := (rd_inv (by omega) hx).le
        have hn2 := (rd_inv (by omega) hx).ge
        simp at hn
        clear hx hcall hend hguard h101
        go_wp2_with fail
        refine HC.out.mono ?_
        rintro e w1 ⟨v, rfl, hRA, hb1⟩
        obtain ⟨A', c', rfl, hRd⟩ := hRA.rd
        obtain ⟨e0, e1, e2, e3, ef⟩ := val_block ((hb1.block (w.heap.size + 1) hz2).trans hR.lst)
        have hz3 : w.heap.size + 1 < w1.heap.size := Nat.lt_of_lt_of_le hz2 hb1.size
        have hown1 : w1.ownsRow (w.heap.size + 2) 47 4 u ts.length xs := hR.own.kept (grown_below hb1 none) (by
          cases h : u.ownBlock with
          | none => exact .inl rfl
          | some g => exact .inr (by simp))
        have hfew := hR.few
        go_wp2_with (at_builtin; refine append_value_at rfl (.tmp 114) (.tmp 116) rfl (w.heap.size + 2) _ ts.length xs _ _ _ _ (Rd.one _ _ hRd) rfl (hown1.alloc _) (w1.heap.size + 1) (by simp) rfl (by omega) (by simp; omega) ?_; intro v2 w2 hown2 hgr2 hob2; obtain ⟨A4, c4, rfl, _, _⟩ := own_shape hown2; obtain ⟨f0, f1, f2, f3, ff⟩ := val_block (step_lst hR hz2 hb1 hgr2); have hz4 : w.heap.size + 1 < w2.heap.size := (by have := hgr2.size; simp at this; omega))
        go_roundw
        case rel => exact ⟨g + n, ts ++ [t], _, _, by go_num, rrel_step hR hlt H101.out HX.out (by omega) hb1 hRd _ hown2 hgr2 hob2⟩
        case measure => simp [intOf]; omega
theorem read_of (N : Nat) : ∀ (s : ByteArray) (d : Nat) (D : Int) (w : World), D = (d : Int) → d ≤ 8 → s.size < N → s.size ≤ 1000000000 → Calls Tryd.prog 69 #[.string s, .int .i64 D] w (RPost (rd s.data.toList d) w) := by
  induction N with
  | zero => intro s d D w _ _ h; omega
  | succ N ih =>
    intro s d D w hD hd hN hs
    by_cases h0 : 0 < s.size
    · by_cases h1 : s[0] = 105
      · exact read_num num_calls s d D hs h0 h1 w
      · by_cases h3 : s[0] = 108
        · by_cases h8 : 8 ≤ d
          · exact read_deep s d D hD h8 hs h0 h3 w
          · exact read_list N ih s d D hD (by omega) (by omega) hs h0 h3 w
        · cases h2 : isDig s[0] with
          | true => exact read_text s d D hs h0 h2 w
          | false => exact read_bad s d D hs h0 h1 h2 h3 w
    · have hd := drop_nil s 0 h0
      rw [List.drop_zero] at hd
      have := read_empty s D h0 w
      rw [hd, rd]
      exact this
theorem read_any (s : ByteArray) (hs : s.size ≤ 1000000000) (w : World) : Calls Tryd.prog 69 #[.string s, .int .i64 0] w (RPost (rd s.data.toList 0) w) := read_of (s.size + 1) s 0 0 w rfl (by omega) (by omega) hs
end Go.Proofs.YtcbkgcnajplagaaDoor.Be
end
section
set_option linter.unusedVariables false
set_option linter.unusedSimpArgs false
namespace Go.Proofs.YtcbkgcnajplagaaDoor.Be
open Go Go.RowKit

theorem TkPost.of_err {r : Except Int (T × Nat)} {x : Int} {w w' : World} {e : Ending} (h : r = .error x) (he : e = .returned (.tuple #[zeroA, .int .i64 0, .int .i64 x])) (hb : Below w.heap.size w w') : TkPost r w e w' := by
  subst h
  exact ⟨he, hb⟩
theorem TkPost.of_ok {r : Except Int (T × Nat)} {t : T} {n : Nat} {v : Value} {w w' : World} {e : Ending} (h : r = .ok (t, n)) (he : e = .returned (.tuple #[v, .int .i64 n, .int .i64 0])) (hr : RdA (fun b => w.heap.size ≤ b) w' t v) (hb : Below w.heap.size w w') : TkPost r w e w' := by
  subst h
  exact ⟨v, he, hr, hb⟩
set_option maxRecDepth 100000 in
set_option maxHeartbeats 8000000 in
theorem rtake_any (s : ByteArray) (hs : s.size ≤ 1000000000) (w : World) : Calls Tryd.prog 55 #[.string s] w (TkPost (takeRes s.data.toList) w) := by
  have htk := read_any s hs (w.alloc (.cells #[.int .i64 0, .int .i64 0, .string ⟨#[]⟩, .slice none 0 0] 47))
  generalize hres : takeRes s.data.toList = res
  unfold takeRes at hres
  rcases hx : rd s.data.toList 0 with x | ⟨t, n⟩
  · rw [hx] at htk hres
    have HTK := Lib.hid htk
    have HR : Hid (res = .error x) := Lib.hid hres.symm
    have hxs := (rd_errs_all _).1 _ _ _ (Nat.le_refl _) hx
    clear hx htk hres
    have hx0 : (x == 0) = false := by rw [Bool.eq_false_iff, Ne, beq_iff_eq]; omega
    have hxn : (x != 0) = true := by rw [bne, hx0]; rfl
    clear hxs
    go_enter Tryd.func55, Tryd.ntmps55
    go_wp2_with fail
    refine HTK.out.mono ?_
    rintro e w1 ⟨v, k, rfl, ⟨k0, rfl⟩, hb⟩
    obtain ⟨hc, hf⟩ := bcell hb
    have hz : w.heap.size < w1.heap.size := by have := hb.size; simp at this; omega
    go_wp2_with fail
    refine bodyPost_ret (v := .tuple #[zeroA, .int .i64 0, .int .i64 x]) (by simp [results, Tryd.results55, go_sem, hc, hz, zeroA]) rfl (TkPost.of_err HR.out rfl ?_)
    exact (below_four (below_new hb) (Nat.le_refl _) _ _ _ _).alloc (by simp; omega) _
  · rw [hx] at htk hres
    have hle := (rd_inv (by omega) hx).le
    simp at hle hres
    have HTK := Lib.hid htk
    clear hx htk
    by_cases hn : 65536 < n
    · rw [if_pos hn] at hres
      have HR : Hid (res = .error 23) := Lib.hid hres.symm
      clear hres
      have hnz : (65536 : Int) < (n : Int) := by omega
      go_enter Tryd.func55, Tryd.ntmps55
      go_wp2_with fail
      refine HTK.out.mono ?_
      rintro e w1 ⟨v, rfl, hRA, hb⟩
      obtain ⟨A, c, rfl, _⟩ := hRA.rd
      obtain ⟨hc, hf⟩ := bcell hb
      have hz : w.heap.size < w1.heap.size := by have := hb.size; simp at this; omega
      go_wp2_with fail
      refine bodyPost_ret (v := .tuple #[zeroA, .int .i64 0, .int .i64 23]) (by simp [results, Tryd.results55, go_sem, hc, hz, zeroA]) rfl (TkPost.of_err HR.out rfl ?_)
      exact (below_four (below_new hb) (Nat.le_refl _) _ _ _ _).alloc (by simp; omega) _
    · rw [if_neg hn] at hres
      have HR : Hid (res = .ok (t, n)) := Lib.hid hres.symm
      clear hres
      have hnz : ¬ (65536 : Int) < (n : Int) := by omega
      go_enter Tryd.func55, Tryd.ntmps55
      go_wp2_with fail
      refine HTK.out.mono ?_
      rintro e w1 ⟨v, rfl, hRA, hb⟩
      obtain ⟨A, c, rfl, _⟩ := hRA.rd
      obtain ⟨hc, hf⟩ := bcell hb
      have hz : w.heap.size < w1.heap.size := by have := hb.size; simp at this; omega
      go_wp2_with fail
      refine bodyPost_ret (v := .tuple #[.agg #[.int .i64 t.k, .int .i64 t.n, .string t.s, .slice A t.l.length c], .int .i64 n, .int .i64 0]) (by simp [results, Tryd.results55, go_sem, hc, hz]) rfl (TkPost.of_ok HR.out rfl ?_ ?_)
      · have h1 := hRA.mono (ok' := fun b => w.heap.size + 1 ≤ b ∧ b < w1.heap.size) (fun b hb hl => by simp at hb; omega)
        refine (h1.keep ?_).mono (fun b hb _ => by omega)
        exact (keeps_four (Keeps.refl _ _) (by simp; omega) _ _ _ _).alloc _
      · exact (below_four (below_new hb) (Nat.le_refl _) _ _ _ _).alloc (by simp; omega) _
set_option maxRecDepth 100000 in
set_option maxHeartbeats 8000000 in
theorem ronly_any (s : ByteArray) (hs : s.size ≤ 1000000000) (w : World) : Calls Tryd.prog 33 #[.string s] w (OnPost (onlyRes s.data.toList) w) := by
  have htk := rtake_any s hs (w.alloc (.cells #[.int .i64 0, .int .i64 0, .string ⟨#[]⟩, .slice none 0 0] 47))
  generalize hres : onlyRes s.data.toList = res
  unfold onlyRes at hres
  rcases hx : takeRes s.data.toList with x | ⟨t, n⟩
  · rw [hx] at htk hres
    have HTK := Lib.hid htk
    have HR : Hid (res = .error x) := Lib.hid hres.symm
    have hxs := takeRes_errs hx
    clear hx htk hres
    have hx0 : (x == 0) = false := by
      rw [Bool.eq_false_iff, Ne, beq_iff_eq]
      omega
    have hxn : (x != 0) = true := by rw [bne, hx0]; rfl
    clear hxs
    go_enter Tryd.func33, Tryd.ntmps33
    go_wp2_with fail
    refine HTK.out.mono ?_
    rintro e w1 ⟨rfl, hb⟩
    obtain ⟨hc, hf⟩ := bcell hb
    have hz : w.heap.size < w1.heap.size := by have := hb.size; simp at this; omega
    unfold zeroA
    go_wp2_with fail
    refine bodyPost_ret (v := .tuple #[zeroA, .int .i64 x]) (by simp [results, Tryd.results33, go_sem, hc, hz, zeroA]) rfl (OnPost.of_err HR.out rfl ?_)
    exact (below_four (below_new hb) (Nat.le_refl _) _ _ _ _).alloc (by simp; omega) _
  · rw [hx] at htk hres
    have hle := (rd_inv (by omega) (takeRes_ok hx).1).le
    simp at hle hres
    have HTK := Lib.hid htk
    clear hx htk
    by_cases hn : n < s.size
    · rw [if_pos hn] at hres
      have HR : Hid (res = .error 20) := Lib.hid hres.symm
      clear hres
      have hnz : (n : Int) < (s.size : Int) := by omega
      go_enter Tryd.func33, Tryd.ntmps33
      go_wp2_with fail
      refine HTK.out.mono ?_
      rintro e w1 ⟨v, rfl, hRA, hb⟩
      obtain ⟨A, c, rfl, _⟩ := hRA.rd
      obtain ⟨hc, hf⟩ := bcell hb
      have hz : w.heap.size < w1.heap.size := by have := hb.size; simp at this; omega
      go_wp2_with fail
      refine bodyPost_ret (v := .tuple #[zeroA, .int .i64 20]) (by simp [results, Tryd.results33, go_sem, hc, hz, zeroA]) rfl (OnPost.of_err HR.out rfl ?_)
      exact (below_four (below_new hb) (Nat.le_refl _) _ _ _ _).alloc (by simp; omega) _
    · rw [if_neg hn] at hres
      have HR : Hid (res = .ok t) := Lib.hid hres.symm
      clear hres
      have hnz : ¬ (n : Int) < (s.size : Int) := by omega
      go_enter Tryd.func33, Tryd.ntmps33
      go_wp2_with fail
      refine HTK.out.mono ?_
      rintro e w1 ⟨v, rfl, hRA, hb⟩
      obtain ⟨A, c, rfl, _⟩ := hRA.rd
      obtain ⟨hc, hf⟩ := bcell hb
      have hz : w.heap.size < w1.heap.size := by have := hb.size; simp at this; omega
      go_wp2_with fail
      refine bodyPost_ret (v := .tuple #[.agg #[.int .i64 t.k, .int .i64 t.n, .string t.s, .slice A t.l.length c], .int .i64 0]) (by simp [results, Tryd.results33, go_sem, hc, hz]) rfl (OnPost.of_ok HR.out rfl ?_ ?_)
      · have h1 := hRA.mono (ok' := fun b => w.heap.size + 1 ≤ b ∧ b < w1.heap.size) (fun b hb hl => by simp at hb; omega)
        refine (h1.keep ?_).mono (fun b hb _ => by omega)
        exact (keeps_four (Keeps.refl _ _) (by simp; omega) _ _ _ _).alloc _
      · exact (below_four (below_new hb) (Nat.le_refl _) _ _ _ _).alloc (by simp; omega) _
end Go.Proofs.YtcbkgcnajplagaaDoor.Be
end
section
set_option linter.unusedVariables false
set_option linter.unusedSimpArgs false
set_option maxRecDepth 100000
namespace Go.Proofs.YtcbkgcnajplagaaDoor.Be
open Go Go.RowKit
set_option maxHeartbeats 8000000 in
theorem rkinds_of (N : Nat) : ∀ (t : T) (v : Value) (ok : Nat → Prop) (w : World), SizeOf.sizeOf t < N → RdA ok w t v → kindsOk t = true → Calls Tryd.prog 42 #[v] w (Gives (.bool true) w) := by
  induction N with
  | zero => intro t v ok w h; omega
  | succ N ih =>
    intro t v ok w hN ht hk
    obtain ⟨A, c, xs, rfl, h2, h3, h4, h5, h6⟩ := ht
    obtain ⟨k, n, s, l⟩ := t
    simp only [T.k, T.n, T.s, T.l] at *
    unfold maxLen at h2 h4
    rcases kinds_cases hk with rfl | rfl | ⟨rfl, hkl⟩
    · clear hk ih h5 h6
      go_enter Tryd.func42, Tryd.ntmps42
      go_wp2_with fail
      refine wp_loop_rounds 1 ?_
      rw [rounds_succ]
      go_wp2_with fail
      go_ret
      exact ⟨rfl, (Below.refl _ _).alloc (Nat.le_refl _) _⟩
    · clear hk ih h5 h6
      go_enter Tryd.func42, Tryd.ntmps42
      go_wp2_with fail
      refine wp_loop_rounds 1 ?_
      rw [rounds_succ]
      go_wp2_with fail
      go_ret
      exact ⟨rfl, (Below.refl _ _).alloc (Nat.le_refl _) _⟩
    · clear hk
      generalize hll : l.length = len at *
      have HLEN := Lib.hid hll
      clear hll
      obtain ⟨hblk, hb0, hsz⟩ := box_start w (.int .i64 3) (.int .i64 n) (.string s) (.slice A len c)
      go_enter Tryd.func42, Tryd.ntmps42
      go_wp2_with fail
      generalize w.alloc (.cells #[.int .i64 3, .int .i64 n, .string s, .slice A len c] 47) = w0 at hblk hb0 hsz
      have HB := Lib.hid hblk
      have HS := Lib.hid hsz
      clear hblk hsz
      go_loopw [3] (fun i wr => ∃ (k : Nat), i = .int .i64 (k : Int) ∧ k ≤ len ∧ Below w0.heap.size w0 wr) (fun i _ => len - (intOf i).toNat)
      case atStart => exact ⟨0, rfl, Nat.zero_le _, Below.refl _ _⟩
      case round =>
        obtain ⟨k, rfl, hk, hbw⟩ := hrel
        have hbw' : Below w.heap.size w wr := hb0.trans (hbw.mono (by have := HS.out; omega))
        obtain ⟨e0, e1, e2, e3, ef⟩ := val_block ((hbw.block w.heap.size (by have := HS.out; omega)).trans HB.out)
        by_cases hlt : k < len
        · have hltz : (k : Int) < (len : Int) := by omega
          have hk1 : k < l.length := by have := HLEN.out; omega
          obtain ⟨b, o, B', d', rfl, hok, hblt, hfr, hRA, g0, g1, g2, g3⟩ := elem_at (HLEN.out ▸ h5) h6 hk1
          have hRA2 := hRA.keep (Keeps.of_below hbw' (fun b _ h => h))
          rw [← hbw'.cell (p := ⟨b, o + k * 4, none⟩) hblt] at g0
          rw [← hbw'.cell (p := ⟨b, o + k * 4 + 1, none⟩) hblt] at g1
          rw [← hbw'.cell (p := ⟨b, o + k * 4 + 2, none⟩) hblt] at g2
          rw [← hbw'.cell (p := ⟨b, o + k * 4 + 3, none⟩) hblt] at g3
          have hszk : SizeOf.sizeOf l[k] < N := by have := sz_mem (k := 3) (n := n) (s := s) (List.getElem_mem hk1); omega
          have hkk := kindsOkL_get hkl hk1
          generalize l[k] = x at *
          have HK := Lib.hid hkk
          clear hkk
          go_wp2_with fail
          refine (ih x _ _ _ hszk hRA2 HK.out).mono ?_
          rintro e w1 ⟨rfl, hb1⟩
          go_wp2_with fail
          go_roundw
          case rel => exact ⟨k + 1, by go_num, by omega, hbw.trans (hb1.mono hbw.size)⟩
          case measure => simp [intOf]; omega
        · have hltz : ¬ (k : Int) < (len : Int) := by omega
          go_wp2_with fail
          go_ret
          exact ⟨rfl, hbw'⟩
theorem rkinds_any (t : T) (v : Value) (ok : Nat → Prop) (w : World) (ht : RdA ok w t v) (hk : kindsOk t = true) : Calls Tryd.prog 42 #[v] w (Gives (.bool true) w) := rkinds_of (SizeOf.sizeOf t + 1) t v ok w (by omega) ht hk
theorem deepL_take (l : List T) {k : Nat} (hk : k < l.length) : deepL (l.take (k + 1)) = max (deepL (l.take k)) (deepT l[k]) := by
  have app : ∀ a b : List T, deepL (a ++ b) = max (deepL a) (deepL b) := fun a b => by
    induction a with
    | nil => simp [deepL]
    | cons x r ih => simp only [List.cons_append, deepL, ih]; omega
  rw [List.take_succ_eq_append_getElem hk, app]
  simp [deepL]
set_option maxHeartbeats 8000000 in
theorem rdeep_of (N : Nat) : ∀ (t : T) (v : Value) (ok : Nat → Prop) (w : World), SizeOf.sizeOf t < N → RdA ok w t v → deepT t ≤ 100 → Calls Tryd.prog 43 #[v] w (Gives (.int .i64 (deepT t)) w) := by
  induction N with
  | zero => intro t v ok w h; omega
  | succ N ih =>
    intro t v ok w hN ht hd
    obtain ⟨A, c, xs, rfl, h2, h3, h4, h5, h6⟩ := ht
    obtain ⟨k, n, s, l⟩ := t
    simp only [T.k, T.n, T.s, T.l] at *
    unfold maxLen at h2 h4
    by_cases hk3 : k = 3
    · subst hk3
      have hdl : deepL l ≤ 99 := by simp only [deepT, if_true] at hd; omega
      have hdm : ∀ t ∈ l, deepT t ≤ 100 := fun t ht => by have := (deepL_le l 99).1 hdl t ht; omega
      have HDT := Lib.hid (show deepT (T.mk 3 n s l) = deepL l + 1 by simp [deepT])
      have HDM := Lib.hid hdm
      clear hd hdm
      generalize hll : l.length = len at *
      have HLEN := Lib.hid hll
      clear hll
      obtain ⟨hblk, hb0, hsz⟩ := box_start w (.int .i64 3) (.int .i64 n) (.string s) (.slice A len c)
      go_enter Tryd.func43, Tryd.ntmps43
      go_wp2_with fail
      generalize w.alloc (.cells #[.int .i64 3, .int .i64 n, .string s, .slice A len c] 47) = w0 at hblk hb0 hsz
      have HB := Lib.hid hblk
      have HS := Lib.hid hsz
      clear hblk hsz
      go_loopw [3, 4] (fun m i wr => ∃ (k d : Nat), i = .int .i64 (k : Int) ∧ m = .int .i64 (d : Int) ∧ k ≤ len ∧ d ≤ 99 ∧ Hid (d = deepL (l.take k)) ∧ Below w0.heap.size w0 wr) (fun _ i _ => len - (intOf i).toNat)
      case atStart => exact ⟨0, 0, rfl, rfl, Nat.zero_le _, by omega, Lib.hid (by simp [deepL]), Below.refl _ _⟩
      case round =>
        obtain ⟨k, d, rfl, rfl, hk, hdk, HD, hbw⟩ := hrel
        have hbw' : Below w.heap.size w wr := hb0.trans (hbw.mono (by have := HS.out; omega))
        obtain ⟨e0, e1, e2, e3, ef⟩ := val_block ((hbw.block w.heap.size (by have := HS.out; omega)).trans HB.out)
        by_cases hlt : k < len
        · have hltz : (k : Int) < (len : Int) := by omega
          have hk1 : k < l.length := by have := HLEN.out; omega
          obtain ⟨b, o, B', d', rfl, hok, hblt, hfr, hRA, g0, g1, g2, g3⟩ := elem_at (HLEN.out ▸ h5) h6 hk1
          have hRA2 := hRA.keep (Keeps.of_below hbw' (fun b _ h => h))
          rw [← hbw'.cell (p := ⟨b, o + k * 4, none⟩) hblt] at g0
          rw [← hbw'.cell (p := ⟨b, o + k * 4 + 1, none⟩) hblt] at g1
          rw [← hbw'.cell (p := ⟨b, o + k * 4 + 2, none⟩) hblt] at g2
          rw [← hbw'.cell (p := ⟨b, o + k * 4 + 3, none⟩) hblt] at g3
          have hszk : SizeOf.sizeOf l[k] < N := by have := sz_mem (k := 3) (n := n) (s := s) (List.getElem_mem hk1); omega
          have hdx := HDM.out _ (List.getElem_mem hk1)
          have hdx2 := (deepL_le l 99).1 hdl _ (List.getElem_mem hk1)
          have hdt := deepL_take l hk1
          have hcall := ih l[k] _ _ _ hszk hRA2 hdx
          generalize l[k] = x at *
          generalize deepT x = dx at *
          have HNX : Hid (max d dx = deepL (l.take (k + 1))) := Lib.hid (by rw [hdt, HD.out])
          have hw : max (d : Int) (dx : Int) = ((max d dx : Nat) : Int) := by omega
          have HW := Lib.hid hw
          have HCALL := Lib.hid hcall
          clear hdt hw hcall
          go_wp2_with fail
          refine HCALL.out.mono ?_
          rintro e w1 ⟨rfl, hb1⟩
          go_wp2_with fail
          exact ⟨⟨k + 1, max d dx, by go_num, by rw [HW.out], by omega, by omega, HNX, hbw.trans (hb1.mono hbw.size)⟩, by simp [intOf]; omega⟩
        · have hltz : ¬ (k : Int) < (len : Int) := by omega
          have HE : Hid ((d : Int) + 1 = (deepT (T.mk 3 n s l) : Int)) := Lib.hid (by
            have h1 := HD.out
            rw [List.take_of_length_le (by have := HLEN.out; omega)] at h1
            have h2 := HDT.out
            omega)
          have hdz : (d : Int) ≤ 99 := by omega
          go_wp2_with fail
          go_ret
          exact ⟨by rw [← HE.out]; rfl, hbw'⟩
    · have hd0 : deepT (T.mk k n s l) = 0 := by simp [deepT, hk3]
      rw [hd0]
      have hkb : (k != 3) = true := by simpa using hk3
      clear ih hd h5 h6 hd0
      go_enter Tryd.func43, Tryd.ntmps43
      go_wp2_with fail
      go_ret
      exact ⟨rfl, (Below.refl _ _).alloc (Nat.le_refl _) _⟩
theorem rdeep_any (t : T) (v : Value) (ok : Nat → Prop) (w : World) (ht : RdA ok w t v) (hd : deepT t ≤ 100) : Calls Tryd.prog 43 #[v] w (Gives (.int .i64 (deepT t)) w) := rdeep_of (SizeOf.sizeOf t + 1) t v ok w (by omega) ht hd
end Go.Proofs.YtcbkgcnajplagaaDoor.Be
end
section
set_option linter.unusedVariables false
set_option linter.unusedSimpArgs false
set_option maxRecDepth 100000
namespace Go.Proofs.YtcbkgcnajplagaaDoor.Be
open Go Go.RowKit
def D' (a : Nat) : List UInt8 := if a = 0 then [] else Lib.decDigits a
theorem D'_step {a : Nat} (h : a ≠ 0) : D' a = D' (a / 10) ++ [UInt8.ofNat (48 + a % 10)] := by
  unfold D'
  rw [if_neg h]
  by_cases h10 : a < 10
  · rw [if_pos (by omega), dec_small h10, Nat.mod_eq_of_lt h10]
    rfl
  · rw [if_neg (by omega), dec_big h10]
theorem D'_len {a : Nat} (h : a ≤ 9223372036854775807) : (D' a).length ≤ 19 := by
  unfold D'
  split
  · simp
  · exact dec_len 19 a (by omega) (by omega)
structure DgR (n : Nat) (w wr : World) (low : Value) (a : Nat) (bs : List UInt8) : Prop where
  own : wr.ownsRow w.heap.size 5 1 low bs.length (Lib.byteCells bs)
  bel : Below w.heap.size w wr
  dig : D' n = D' a ++ bs.reverse
set_option maxHeartbeats 8000000 in
theorem digits_nat (n : Nat) (hn : n ≤ 9223372036854775807) (w : World) : Calls Tryd.prog 63 #[.int .i64 (n : Int)] w (Gives (.string ⟨(Lib.itoa n).toArray⟩) w) := by
  by_cases h0 : n = 0
  · subst h0
    have e : (⟨(Lib.itoa ((0 : Nat) : Int)).toArray⟩ : ByteArray) = ⟨#[48]⟩ := by rw [itoa_nat, dec_small (by omega)]; rfl
    rw [e]
    go_enter Tryd.func63, Tryd.ntmps63
    go_wp2_with fail
    go_ret
    exact ⟨rfl, Below.refl _ _⟩
  · have hnb : ((n : Int) == 0) = false := by simp; omega
    have hitoa : Lib.itoa (n : Int) = D' n := by rw [itoa_nat]; unfold D'; rw [if_neg h0]
    rw [hitoa]
    have hl19 := D'_len hn
    have hnz : (n : Int) ≤ 9223372036854775807 := by omega
    have hn0 : ¬ (n : Int) < 0 := by omega
    clear hitoa
    go_enter Tryd.func63, Tryd.ntmps63
    go_wp2_with fail
    go_loopw [3, 4] (fun low k wr => ∃ (a : Nat) (bs : List UInt8), k = .int .i64 (a : Int) ∧ a ≤ n ∧ DgR n w wr low a bs) (fun _ k _ => (intOf k).toNat)
    case atStart => exact ⟨n, [], rfl, Nat.le_refl _, World.ownsRow_nil .., Below.refl _ _, by simp⟩
    case round =>
      obtain ⟨a, bs, rfl, ha, hR⟩ := hrel
      have hbl : bs.length ≤ 19 := by
        have := congrArg List.length hR.dig
        rw [List.length_append, List.length_reverse] at this
        omega
      by_cases ha0 : a = 0
      · subst ha0
        rw [show ((0 : Nat) : Int) = 0 from rfl]
        have hdig := hR.dig
        simp only [D', if_true, List.nil_append] at hdig
        have HD := Lib.hid (show D' n = bs.reverse from hdig)
        have hown := hR.own
        have hbel := hR.bel
        have hsz := hbel.size
        clear hR hdig
        have hpos : 0 < bs.length := by
          have h1 := congrArg List.length HD.out
          rw [List.length_reverse] at h1
          have h2 := D'_step h0
          have h3 := congrArg List.length h2
          rw [List.length_append, List.length_singleton] at h3
          omega
        obtain ⟨g, cap, rfl, hg1, hg2⟩ := hown.form hpos
        have hcs := hown.cells (g := g) rfl
        obtain ⟨L, hL⟩ : ∃ L, bs.length = L := ⟨_, rfl⟩
        have HL := Lib.hid hL
        rw [hL]
        rw [hL] at hpos hbl
        have hLz : IntKind.i64.wrap ((L : Int) - 1) = (L : Int) - 1 := by rw [IntKind.wrap_i64]; omega
        clear hL hown
        obtain ⟨wo, hwo⟩ : ∃ wo, wo = wr := ⟨_, rfl⟩
        subst hwo
        go_wp2_with fail
        go_loopw [6, 7] (fun out i wr => ∃ j : Nat, i = .int .i64 ((j : Int) - 1) ∧ j ≤ L ∧ wr.ownsRow wo.heap.size 5 1 out (bs.drop j).reverse.length (Lib.byteCells (bs.drop j).reverse) ∧ Below wo.heap.size wo wr) (fun _ i _ => (intOf i + 1).toNat)
        case atStart =>
          refine ⟨L, rfl, Nat.le_refl _, ?_, Below.refl _ _⟩
          rw [List.drop_of_length_le (by have := HL.out; omega)]
          exact World.ownsRow_nil ..
        case round =>
          obtain ⟨j, rfl, hj, hown2, hb2⟩ := hrel
          rcases j with _ | j
          · rw [List.drop_zero] at hown2
            have hcv := conv_row hown2 (by rw [List.length_reverse]; have := HL.out; omega)
            rw [← HD.out] at hcv
            have HCV := Lib.hid (hcv 40 9 Tryd.underlying40 Tryd.underlying9)
            have hcv2 := HCV.out
            clear hown2 hcv
            go_wp2_with fail
            go_ret
            exact ⟨rfl, hbel.trans (hb2.mono hsz)⟩
          · have e1 : ((j + 1 : Nat) : Int) - 1 = (j : Int) := by omega
            rw [e1]
            have hjl : j < bs.length := by have := HL.out; omega
            have hjz : (j : Int) < (L : Int) := by omega
            have hjL : j < L := by omega
            have hdr : (bs.drop j).reverse = (bs.drop (j + 1)).reverse ++ [bs[j]] := by
              rw [List.drop_eq_getElem_cons hjl, List.reverse_cons]
            have cj : wr.cell? ⟨g, j, none⟩ = some (.int .u8 (bs[j].toNat : Int)) := by
              have h1 := hcs j (.int .u8 (bs[j].toNat : Int)) (by unfold Lib.byteCells; rw [List.getElem?_map, List.getElem?_eq_getElem hjl]; rfl)
              rw [add_flat, Nat.zero_add] at h1
              exact (hb2.cell (p := ⟨g, j, none⟩) hg2).trans h1
            have hjw : IntKind.i64.wrap ((j : Int) - 1) = (j : Int) - 1 := by rw [IntKind.wrap_i64]; omega
            have hlen : (bs.drop (j + 1)).reverse.length ≤ 1000 := by rw [List.length_reverse, List.length_drop]; have := HL.out; omega
            generalize bs[j] = c at *
            have HDR := Lib.hid hdr
            have HOW2 := Lib.hid hown2
            have hsz2 := hb2.size
            clear hdr e1 hown2
            go_wp2_with (at_builtin; refine append_byte rfl (.tmp 39) (.tmp 44) rfl wo.heap.size _ _ (Lib.byteCells (bs.drop (j + 1)).reverse) (.int .u8 (c.toNat : Int)) rfl rfl HOW2.out rfl (by omega) hsz2 ?_; intro v3 w3 hown3 hgr3 hob3; have HOW := Lib.hid hown3; have HGR := Lib.hid hgr3; clear hown3 hgr3 hob3)
            refine ⟨⟨j, rfl, by omega, ?_, hb2.grown HGR.out hsz2 (fun g hg => (HOW2.out.lt g hg).1)⟩, by simp [intOf]⟩
            rw [HDR.out]
            exact own_byte c rfl HOW.out
      · have hab : ((a : Int) != 0) = true := by simp; omega
        have haz : (a : Int) ≤ 9223372036854775807 := by omega
        have ha1 : 0 < (a : Int) := by omega
        obtain ⟨d, hd, hd10⟩ : ∃ d : Nat, (a : Int) % 10 = (d : Int) ∧ d < 10 := ⟨a % 10, by omega, by omega⟩
        obtain ⟨a', ha'⟩ : ∃ a' : Nat, (a : Int) / 10 = (a' : Int) := ⟨a / 10, by omega⟩
        have hst := D'_step ha0
        rw [show a / 10 = a' by omega, show a % 10 = d by omega] at hst
        have hown0 := hR.own
        have hbel := hR.bel
        have HDG := Lib.hid hR.dig
        have HST := Lib.hid hst
        have hle : a' ≤ n := by omega
        have hlt : a' < a := by omega
        have HC := Lib.hid (u8_ofNat (n := 48 + d) (by omega))
        clear hst hR
        go_wp2_with (at_builtin; refine append_byte rfl (.tmp 21) (.tmp 25) rfl w.heap.size _ bs.length (Lib.byteCells bs) (.int .u8 (48 + (d : Int))) rfl rfl hown0 rfl (by omega) hbel.size ?_; intro v1 w1 hown1 hgr1 hob1; have HOW := Lib.hid hown1; have HGR := Lib.hid hgr1; clear hown1 hgr1 hob1)
        refine ⟨⟨a', bs ++ [UInt8.ofNat (48 + d)], rfl, hle, own_byte (UInt8.ofNat (48 + d)) (by have := HC.out; omega) HOW.out, hbel.grown HGR.out hbel.size (fun g hg => (hown0.lt g hg).1), ?_⟩, by simp [intOf]; omega⟩
        rw [HDG.out, HST.out]
        simp
end Go.Proofs.YtcbkgcnajplagaaDoor.Be
end
