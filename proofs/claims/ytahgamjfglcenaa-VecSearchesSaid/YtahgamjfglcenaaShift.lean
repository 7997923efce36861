/- The walk of VecShift: it returns true. Conditions: none. -/
import Derived.Test.YtahgamjfglcenaaAwake
set_option linter.unusedVariables false
set_option linter.unusedSimpArgs false
namespace Go.Proofs.Ytahgamjfglcenaa
open Go Go.RowKit
theorem i64_and20 (n : Int) : bits .and .i64 n 1048575 = n % 1048576 := by
  have hm : (BitVec.ofInt 64 1048575).toNat = 2 ^ 20 - 1 := by decide
  have key : (BitVec.ofInt 64 n &&& BitVec.ofInt 64 1048575).toNat = (n % ((2 ^ 64 : Nat) : Int)).toNat % 2 ^ 20 := by
    rw [BitVec.toNat_and, BitVec.toNat_ofInt, hm, Nat.and_two_pow_sub_one_eq_mod]
  show IntKind.i64.wrap ((BitVec.ofInt 64 n &&& BitVec.ofInt 64 1048575).toNat : Nat) = n % 1048576
  rw [key, IntKind.wrap_i64]
  omega
theorem i64_and8 (n : Int) : bits .and .i64 n 255 = n % 256 := by
  have hm : (BitVec.ofInt 64 255).toNat = 2 ^ 8 - 1 := by decide
  have key : (BitVec.ofInt 64 n &&& BitVec.ofInt 64 255).toNat = (n % ((2 ^ 64 : Nat) : Int)).toNat % 2 ^ 8 := by
    rw [BitVec.toNat_and, BitVec.toNat_ofInt, hm, Nat.and_two_pow_sub_one_eq_mod]
  show IntKind.i64.wrap ((BitVec.ofInt 64 n &&& BitVec.ofInt 64 255).toNat : Nat) = n % 256
  rw [key, IntKind.wrap_i64]
  omega
abbrev Tri := Int × Int × Int
def tris (l : List Tri) : List Value := l.flatMap fun t => [.int .i64 t.1, .int .i64 t.2.1, .int .i64 t.2.2]
theorem tris_len (l : List Tri) : (tris l).length = l.length * 3 := by
  induction l with
  | nil => rfl
  | cons t r ih => unfold tris at *; simp only [List.flatMap_cons, List.length_append, ih, List.length_cons, List.length_nil]; omega
theorem tris_at (l : List Tri) (k : Nat) (hk : k < l.length) : (tris l)[3 * k]? = some (.int .i64 (l.getD k (0, 0, 0)).1) ∧ (tris l)[3 * k + 1]? = some (.int .i64 (l.getD k (0, 0, 0)).2.1) ∧ (tris l)[3 * k + 2]? = some (.int .i64 (l.getD k (0, 0, 0)).2.2) := by
  induction l generalizing k with
  | nil => simp at hk
  | cons t r ih =>
    have e : tris (t :: r) = .int .i64 t.1 :: .int .i64 t.2.1 :: .int .i64 t.2.2 :: tris r := by simp [tris]
    rw [e]
    rcases k with _ | k
    · simp
    · have := ih k (by simpa using hk)
      rw [show 3 * (k + 1) = 3 * k + 1 + 1 + 1 by omega]
      simpa using this
theorem Reads.tri_at {w : World} {B n k : Nat} {A : Option Addr} {l : List Tri} (h : Reads w B 3 A n (tris l)) (hk : k < n) : ∃ ad, A = some ad ∧ ad.block < B ∧ k < l.length ∧
    w.cell? (ad.add (k * 3)) = some (.int .i64 (l.getD k (0, 0, 0)).1) ∧ w.cell? ((ad.add (k * 3)).add 1) = some (.int .i64 (l.getD k (0, 0, 0)).2.1) ∧ w.cell? ((ad.add (k * 3)).add 2) = some (.int .i64 (l.getD k (0, 0, 0)).2.2) := by
  have hl := h.1
  rw [tris_len] at hl
  have hk' : k < l.length := by omega
  obtain ⟨ad, e, hb, hc⟩ := h.2 (by omega)
  obtain ⟨t1, t2, t3⟩ := tris_at l k hk'
  refine ⟨ad, e, hb, hk', ?_, ?_, ?_⟩
  · rw [Nat.mul_comm]
    exact hc _ _ t1
  · rw [add_of_add, Nat.mul_comm]
    exact hc _ _ t2
  · rw [add_of_add, Nat.mul_comm]
    exact hc _ _ t3
def fx (t : Tri) : Int := t.1 % 1048576
def fy (t : Tri) : Int := t.2.1 % 1048576
def fz (t : Tri) : Int := t.2.2 % 1048576
def fc (t : Tri) : Int := fx t + fz t
def fd (t : Tri) : Int := fy t + fz t
theorem far_shift : ∀ l : List Tri, far (l.map fc) (l.map fd) = far (l.map fx) (l.map fy)
  | [] => rfl
  | t :: r => by
    simp only [List.map_cons, far, far_shift r]
    unfold fc fd
    rw [gap_add]
theorem ok_map (f : Tri → Int) (hf : ∀ t, -2147483648 ≤ f t ∧ f t ≤ 2147483647) (l : List Tri) (h1 : 1 ≤ l.length) (h2 : l.length ≤ 8) : okV (l.map f) = true := by
  rw [okV_iff]
  refine ⟨by simpa using h1, by simp; omega, fun x hx => ?_⟩
  obtain ⟨t, _, rfl⟩ := List.mem_map.1 hx
  exact hf t
theorem fx_in (t : Tri) : -2147483648 ≤ fx t ∧ fx t ≤ 2147483647 := by unfold fx; omega
theorem fy_in (t : Tri) : -2147483648 ≤ fy t ∧ fy t ≤ 2147483647 := by unfold fy; omega
theorem fc_in (t : Tri) : -2147483648 ≤ fc t ∧ fc t ≤ 2147483647 := by unfold fc fx fz; omega
theorem fd_in (t : Tri) : -2147483648 ≤ fd t ∧ fd t ≤ 2147483647 := by unfold fd fy fz; omega
def rotL (l : List Int) (r : Nat) : List Int := l.drop r ++ l.take r
theorem rotL_len (l : List Int) (r : Nat) : (rotL l r).length = l.length := by simp [rotL]; omega
theorem rotL_at (l : List Int) (r i : Nat) (hr : r < l.length) (hi : i < l.length) : (rotL l r).getD i 0 = l.getD ((i + r) % l.length) 0 := by
  unfold rotL
  rw [List.getD_eq_getElem?_getD, List.getD_eq_getElem?_getD]
  congr 1
  by_cases h : i < l.length - r
  · rw [List.getElem?_append_left (by simpa using h), List.getElem?_drop, Nat.mod_eq_of_lt (by omega), Nat.add_comm]
  · rw [List.getElem?_append_right (by simp; omega), List.length_drop, List.getElem?_take, if_pos (by omega)]
    rw [show i + r = (i - (l.length - r)) + l.length by omega, Nat.add_mod_right, Nat.mod_eq_of_lt (by omega)]
theorem far_append : ∀ (a b c d : List Int), a.length = b.length → far (a ++ c) (b ++ d) = far a b + far c d
  | [], [], c, d, _ => by simp [far]
  | x :: xs, y :: ys, c, d, h => by
    simp only [List.cons_append, far]
    rw [far_append xs ys c d (by simpa using h)]
    omega
  | [], y :: ys, c, d, h => by simp at h
  | x :: xs, [], c, d, h => by simp at h
theorem far_rot (a b : List Int) (r : Nat) (h : a.length = b.length) : far (rotL a r) (rotL b r) = far a b := by
  unfold rotL
  rw [far_append _ _ _ _ (by simp [h]), Int.add_comm, ← far_append _ _ _ _ (by simp [h]), List.take_append_drop, List.take_append_drop]
theorem ok_rot {a : List Int} (r : Nat) (h : okV a = true) : okV (rotL a r) = true := by
  rw [okV_iff] at *
  rw [rotL_len]
  refine ⟨h.1, h.2.1, fun x hx => ?_⟩
  unfold rotL at hx
  rcases List.mem_append.1 hx with hx | hx
  · exact h.2.2 x (List.mem_of_mem_drop hx)
  · exact h.2.2 x (List.mem_of_mem_take hx)
theorem map_take_snoc (f : Tri → Int) (l : List Tri) (k : Nat) (hk : k < l.length) : (l.map f).take (k + 1) = (l.map f).take k ++ [f (l.getD k (0, 0, 0))] := by
  rw [take_snoc _ k (by simpa using hk)]
  congr 2
  rw [List.getD_eq_getElem?_getD, List.getD_eq_getElem?_getD, List.getElem?_map, List.getElem?_eq_getElem hk]
  rfl
theorem own_cell {w : World} {base n cap g : Nat} {ad : Addr} {l : List Int} {Y : Int} (h : w.ownsRow base 3 1 (.slice (some ad) n cap) n (ints l)) (hg : g < n) (hY : l.getD g 0 = Y) : w.cell? (ad.add g) = some (.int .i64 Y) := by
  obtain ⟨ad', e, _, hc⟩ := (Reads.of_own h).int_at hg
  injection e with e
  subst e
  rw [hc, hY]
theorem ent {v v' : Value} {n n' : Nat} {xs xs' : List Int} (h1 : v = v') (h2 : n = n') (h3 : xs = xs') : (v, n, ints xs) = (v', n', ints xs') := by rw [h1, h2, h3]
set_option maxHeartbeats 4000000 in
set_option maxRecDepth 100000 in
theorem vecShift_walk (A : Option Addr) (n c : Nat) (l : List Tri) (turn : Int) (w : World) (h0 : Reads w w.heap.size 3 A n (tris l)) (hm : n ≤ maxLen) : Calls Try.prog 9 #[.slice A n c, .int .i64 turn] w (Gives (.bool true) w) := by
  have hl := h0.1
  rw [tris_len] at hl
  unfold maxLen at hm
  by_cases hz : n = 0
  · subst hz
    go_enter Try.func9, Try.ntmps9
    go_wp2_with fail
    refine (awake_any w).mono ?_
    rintro e w1 ⟨rfl, hb⟩
    go_wp2_with fail
    go_ret
    exact ⟨rfl, hb⟩
  · have hzz : ((n : Int) == 0) = false := by rw [beq_eq_false_iff_ne]; omega
    by_cases h8 : n ≤ 8
    · have h8z : ¬ (8 : Int) < n := by omega
      have hnl : n = l.length := by omega
      have HL := Lib.hid hnl
      have hl1 : n ≤ l.length := by omega
      have hl2 : l.length ≤ n := by omega
      clear hl hnl hm
      go_enter Try.func9, Try.ntmps9
      go_wp2_with fail
      go_loopw [6, 7, 8, 9, 12] (fun va vb vc vd i wr => ∃ k : Nat, k ≤ n ∧ i = .int .i64 k ∧ Fam wr w.heap.size 3 1 [(va, k, ints ((l.map fx).take k)), (vb, k, ints ((l.map fy).take k)), (vc, k, ints ((l.map fc).take k)), (vd, k, ints ((l.map fd).take k))] ∧ Below w.heap.size w wr) (fun _ _ _ _ i _ => n - (intOf i).toNat)
      case atStart => exact ⟨0, Nat.zero_le _, rfl, Fam.none_cons (Fam.none_cons (Fam.none_cons (Fam.none_cons Fam.nil))), Below.refl _ _⟩
      case round =>
        obtain ⟨k, hk, rfl, hF, hb⟩ := hrel
        by_cases hlt : k < n
        · have hltz : (k : Int) < (n : Int) := by omega
          obtain ⟨ad, rfl, hbk, hkl, c0, c1, c2⟩ := (h0.below hb).tri_at hlt
          have c1' : wr.cell? ⟨(ad.add (k * 3)).block, (ad.add (k * 3)).off + 1, none⟩ = some (.int .i64 (l.getD k (0, 0, 0)).2.1) := c1
          have c2' : wr.cell? ⟨(ad.add (k * 3)).block, (ad.add (k * 3)).off + 2, none⟩ = some (.int .i64 (l.getD k (0, 0, 0)).2.2) := c2
          clear c1 c2
          have e1 := map_take_snoc fx l k (by omega)
          have e2 := map_take_snoc fy l k (by omega)
          have e3 := map_take_snoc fc l k (by omega)
          have e4 := map_take_snoc fd l k (by omega)
          have E := Lib.hid (And.intro e1 (And.intro e2 (And.intro e3 e4)))
          clear e1 e2 e3 e4
          generalize l.getD k (0, 0, 0) = t at *
          have b1 := i64_and20 t.1
          have b2 := i64_and20 t.2.1
          have b3 := i64_and20 t.2.2
          have x1 : t.1 % 1048576 = fx t := rfl
          have x2 : t.2.1 % 1048576 = fy t := rfl
          have x3 : t.2.2 % 1048576 = fz t := rfl
          rw [x1] at b1
          rw [x2] at b2
          rw [x3] at b3
          have i1 : 0 ≤ fx t ∧ fx t < 1048576 := by unfold fx; omega
          have i2 : 0 ≤ fy t ∧ fy t < 1048576 := by unfold fy; omega
          have i3 : 0 ≤ fz t ∧ fz t < 1048576 := by unfold fz; omega
          have y1 : fc t = fx t + fz t := rfl
          have y2 : fd t = fy t + fz t := rfl
          rw [y1, y2] at E
          clear x1 x2 x3 y1 y2
          generalize fx t = X at *
          generalize fy t = Y at *
          generalize fz t = Z at *
          go_wp2_with fail
          go_quiet (fail)
          have hF0 := hF.drewN nq
          have hb0 := below_drewN hb nq
          have hs0 : w.heap.size ≤ (wr.drewN nq).heap.size := hb0.size
          clear hF hb
          generalize wr.drewN nq = W0 at *
          go_wp2_with (at_builtin; first
            | (refine append_fam rfl (.tmp 58) (.tmp 60) rfl w.heap.size [] _ u6 k _ X rfl hF0 _ (by simp) rfl (by omega) hs0 ?_; intro v1 w1 hF1 hb1 hs1; have hs1' : w.heap.size ≤ w1.heap.size := (by omega); clear hF0)
            | (refine append_fam rfl (.tmp 62) (.tmp 64) rfl w.heap.size [_] _ u7 k _ Y rfl hF1 _ (by simp) rfl (by omega) hs1' ?_; intro v2 w2 hF2 hb2 hs2; have hs2' : w.heap.size ≤ w2.heap.size := (by omega); clear hF1)
            | (refine append_fam rfl (.tmp 66) (.tmp 70) rfl w.heap.size [_, _] _ u8 k _ (X + Z) rfl hF2 _ (by simp) rfl (by omega) hs2' ?_; intro v3 w3 hF3 hb3 hs3; have hs3' : w.heap.size ≤ w3.heap.size := (by omega); clear hF2)
            | (refine append_fam rfl (.tmp 72) (.tmp 76) rfl w.heap.size [_, _, _] _ u9 k _ (Y + Z) rfl hF3 _ (by simp) rfl (by omega) hs3' ?_; intro v4 w4 hF4 hb4 hs4; have hs4' : w.heap.size ≤ w4.heap.size := (by omega); clear hF3))
          go_roundw
          case rel =>
            refine ⟨k + 1, by omega, by go_num, ?_, (((hb0.trans hb1).trans hb2).trans hb3).trans hb4⟩
            rw [E.out.1, E.out.2.1, E.out.2.2.1, E.out.2.2.2]
            exact hF4
          case measure => simp [intOf]; omega
        · have hkn : k = n := by omega
          subst hkn
          rw [List.take_of_length_le (by simp; omega), List.take_of_length_le (by simp; omega), List.take_of_length_le (by simp; omega), List.take_of_length_le (by simp; omega)] at hF
          obtain ⟨Aa, ca, rfl, qa1, qa2⟩ := own_shape (hF.own (v := u6) (n := k) (xs := ints (l.map fx)) (by simp))
          obtain ⟨Ab, cb, rfl, qb1, qb2⟩ := own_shape (hF.own (v := u7) (n := k) (xs := ints (l.map fy)) (by simp))
          obtain ⟨Ac, cc, rfl, qc1, qc2⟩ := own_shape (hF.own (v := u8) (n := k) (xs := ints (l.map fc)) (by simp))
          obtain ⟨Ad, cd, rfl, qd1, qd2⟩ := own_shape (hF.own (v := u9) (n := k) (xs := ints (l.map fd)) (by simp))
          have hr := i64_and8 turn
          have hr1 : 0 ≤ turn % 256 := by omega
          have hr2 : turn % 256 < 256 := by omega
          generalize turn % 256 = T at *
          obtain ⟨t, rfl⟩ := Int.eq_ofNat_of_zero_le hr1
          have HR := Lib.hid (And.intro (show t < 256 by omega) rfl : _ ∧ True = True)
          go_wp2_with fail
          go_loopw [10, 11, 16] (fun ve vf i wq => ∃ j : Nat, j ≤ k ∧ i = .int .i64 j ∧ Fam wq w.heap.size 3 1 [(.slice Aa k ca, k, ints (l.map fx)), (.slice Ab k cb, k, ints (l.map fy)), (.slice Ac k cc, k, ints (l.map fc)), (.slice Ad k cd, k, ints (l.map fd)), (ve, j, ints ((rotL (l.map fx) (t % k)).take j)), (vf, j, ints ((rotL (l.map fy) (t % k)).take j))] ∧ Below w.heap.size w wq) (fun _ _ i _ => k - (intOf i).toNat)
          case atStart => exact ⟨0, Nat.zero_le _, rfl, hF.snoc_none.snoc_none, hb⟩
          case round =>
            obtain ⟨j, hj, rfl, hG, hbq⟩ := hrel
            by_cases hjlt : j < k
            · have hjz : (j : Int) < (k : Int) := by omega
              clear hF hb
              have hsq := hbq.size
              obtain ⟨g, hg⟩ : ∃ g, g = (j + t) % k := ⟨_, rfl⟩
              have hgk : g < k := by rw [hg]; exact Nat.mod_lt _ (by omega)
              have e1 := rotL_at (l.map fx) (t % k) j (by rw [List.length_map, ← HL.out]; exact Nat.mod_lt _ (by omega)) (by simp; omega)
              have e2 := rotL_at (l.map fy) (t % k) j (by rw [List.length_map, ← HL.out]; exact Nat.mod_lt _ (by omega)) (by simp; omega)
              rw [List.length_map, ← HL.out, Nat.add_mod_mod, ← hg] at e1 e2
              have s1 := take_snoc (rotL (l.map fx) (t % k)) j (by rw [rotL_len]; simp; omega)
              have s2 := take_snoc (rotL (l.map fy) (t % k)) j (by rw [rotL_len]; simp; omega)
              rw [e1] at s1
              rw [e2] at s2
              obtain ⟨ad1, hd1, hbd1, hc1⟩ := (Reads.of_own (hG.own (v := .slice Aa k ca) (n := k) (xs := ints (l.map fx)) (by simp))).int_at hgk
              obtain ⟨ad2, hd2, hbd2, hc2⟩ := (Reads.of_own (hG.own (v := .slice Ab k cb) (n := k) (xs := ints (l.map fy)) (by simp))).int_at hgk
              subst hd1 hd2
              generalize (l.map fx).getD g 0 = X at *
              generalize hY : (l.map fy).getD g 0 = Y at *
              have HY := Lib.hid hY
              clear hY hc2
              have hgz : ((j : Int) + (t : Int)) % (k : Int) = (g : Int) := by rw [hg]; simp
              have S := Lib.hid (And.intro s1 s2)
              clear s1 s2 e1 e2
              have G := Lib.hid hg
              clear hg
              go_wp2_with (at_builtin; first
                | (refine append_fam rfl (.tmp 89) (.tmp 94) rfl w.heap.size [_, _, _, _] _ u10 j _ X rfl hG _ (by simp) rfl (by omega) hsq ?_; intro v1 w1 hG1 hb1 hs1; have hs1' : w.heap.size ≤ w1.heap.size := (by omega); have hc2 := own_cell (hG1.own (v := .slice (some ad2) k cb) (n := k) (xs := ints (l.map fy)) (by simp)) hgk HY.out; clear hG hc1)
                | (refine append_fam rfl (.tmp 96) (.tmp 101) rfl w.heap.size [_, _, _, _, _] _ u11 j _ Y rfl hG1 _ (by simp) rfl (by omega) hs1' ?_; intro v2 w2 hG2 hb2 hs2; clear hG1))
              go_roundw
              case rel =>
                refine ⟨j + 1, by omega, by go_num, ?_, (hbq.trans hb1).trans hb2⟩
                rw [S.out.1, S.out.2]
                exact hG2
              case measure => simp [intOf]; omega
            · have hjk : j = k := by omega
              subst hjk
              rw [List.take_of_length_le (by rw [rotL_len]; simp; omega), List.take_of_length_le (by rw [rotL_len]; simp; omega)] at hG
              obtain ⟨Ae, ce, rfl, qe1, qe2⟩ := own_shape (hG.own (v := u10) (n := j) (xs := ints (rotL (l.map fx) (t % j))) (by simp))
              obtain ⟨Af, cf, rfl, qf1, qf2⟩ := own_shape (hG.own (v := u11) (n := j) (xs := ints (rotL (l.map fy) (t % j))) (by simp))
              have r1 := Reads.of_own (hG.own (v := .slice Aa j ca) (n := j) (xs := ints (l.map fx)) (by simp))
              have r2 := Reads.of_own (hG.own (v := .slice Ab j cb) (n := j) (xs := ints (l.map fy)) (by simp))
              have r3 := Reads.of_own (hG.own (v := .slice Ac j cc) (n := j) (xs := ints (l.map fc)) (by simp))
              have r4 := Reads.of_own (hG.own (v := .slice Ad j cd) (n := j) (xs := ints (l.map fd)) (by simp))
              have r5 := Reads.of_own (hG.own (v := .slice Ae j ce) (n := j) (xs := ints (rotL (l.map fx) (t % j))) (by simp))
              have r6 := Reads.of_own (hG.own (v := .slice Af j cf) (n := j) (xs := ints (rotL (l.map fy) (t % j))) (by simp))
              have jm : j ≤ maxLen := by unfold maxLen; omega
              have d1 := dist_any Aa Ab j j ca cb _ _ _ _ wr r1 r2 jm jm
              have d2 := fun q => dist_any Ac Ad j j cc cd _ _ _ _ (wr.drewN q) (r3.drewN q) (r4.drewN q) jm jm
              have d3 := fun q => dist_any Ae Af j j ce cf _ _ _ _ (wr.drewN q) (r5.drewN q) (r6.drewN q) jm jm
              have k1 := ok_map fx fx_in l (by omega) (by omega)
              have k2 := ok_map fy fy_in l (by omega) (by omega)
              rw [dstR_yes ⟨k1, k2, by simp⟩] at d1
              rw [dstR_yes ⟨ok_map fc fc_in l (by omega) (by omega), ok_map fd fd_in l (by omega) (by omega), by simp⟩, far_shift] at d2
              rw [dstR_yes ⟨ok_rot _ k1, ok_rot _ k2, by rw [rotL_len, rotL_len]; simp⟩, far_rot _ _ _ (by simp)] at d3
              unfold two at d1 d2 d3
              have D1 := Lib.hid d1
              have D2 := Lib.hid d2
              have D3 := Lib.hid d3
              generalize far (l.map fx) (l.map fy) = F at *
              clear d1 d2 d3 r1 r2 r3 r4 r5 r6 hG hF k1 k2
              go_wp2_with fail
              refine D1.out.mono ?_
              rintro e w1 ⟨rfl, q1, rfl⟩
              go_wp2_with fail
              refine (D2.out q1).mono ?_
              rintro e w1 ⟨rfl, q2, rfl⟩
              rw [drewN_two]
              go_wp2_with fail
              refine (D3.out _).mono ?_
              rintro e w1 ⟨rfl, q3, rfl⟩
              rw [drewN_two]
              go_wp2_with fail
              refine (awake_any _).mono ?_
              rintro e w1 ⟨rfl, hb1⟩
              go_wp2_with fail
              go_ret
              exact ⟨rfl, (below_drewN hbq _).trans (hb1.mono (below_drewN hbq _).size)⟩
    · have h8z : (8 : Int) < n := by omega
      go_enter Try.func9, Try.ntmps9
      go_wp2_with fail
      refine (awake_any w).mono ?_
      rintro e w1 ⟨rfl, hb⟩
      go_wp2_with fail
      go_ret
      exact ⟨rfl, hb⟩
end Go.Proofs.Ytahgamjfglcenaa
