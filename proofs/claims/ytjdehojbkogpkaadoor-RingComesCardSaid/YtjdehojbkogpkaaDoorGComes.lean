/- RingComes returns true. Conditions: the tables lie as start-up lays them. -/
import Derived.Test.YtjdehojbkogpkaaDoorGParts
set_option linter.unusedVariables false
set_option linter.unusedSimpArgs false
set_option maxRecDepth 100000
namespace Go.Proofs.YtjdehojbkogpkaaDoor
open Go Go.RowKit Go.Maps
theorem i64_mask (n : Int) (m : Nat) (hm : m < 63) : bits .and .i64 n ((2 ^ m - 1 : Nat) : Int) = n % ((2 ^ m : Nat) : Int) := by
  have hp : 2 ^ m ≤ 2 ^ 62 := Nat.pow_le_pow_right (by omega) (by omega)
  have hp0 : 0 < 2 ^ m := Nat.two_pow_pos m
  have hm2 : (BitVec.ofInt 64 ((2 ^ m - 1 : Nat) : Int)).toNat = 2 ^ m - 1 := by
    rw [BitVec.toNat_ofInt]
    generalize 2 ^ m = q at *
    omega
  have key : (BitVec.ofInt 64 n &&& BitVec.ofInt 64 ((2 ^ m - 1 : Nat) : Int)).toNat = (n % ((2 ^ 64 : Nat) : Int)).toNat % 2 ^ m := by
    rw [BitVec.toNat_and, BitVec.toNat_ofInt, hm2, Nat.and_two_pow_sub_one_eq_mod]
  show IntKind.i64.wrap ((BitVec.ofInt 64 n &&& BitVec.ofInt 64 ((2 ^ m - 1 : Nat) : Int)).toNat : Nat) = n % ((2 ^ m : Nat) : Int)
  rw [key, IntKind.wrap_i64]
  have hd : ((2 ^ m : Nat) : Int) ∣ ((2 ^ 64 : Nat) : Int) := Int.natCast_dvd_natCast.2 (Nat.pow_dvd_pow 2 (by omega))
  have e1 : (((n % ((2 ^ 64 : Nat) : Int)).toNat % 2 ^ m : Nat) : Int) = n % ((2 ^ m : Nat) : Int) := by
    rw [Int.natCast_emod, Int.toNat_of_nonneg (Int.emod_nonneg _ (by decide)), Int.emod_emod_of_dvd _ hd]
  rw [e1]
  have h1 := Int.emod_nonneg n (b := ((2 ^ m : Nat) : Int)) (by omega)
  have h2 := Int.emod_lt_of_pos n (b := ((2 ^ m : Nat) : Int)) (by omega)
  generalize n % ((2 ^ m : Nat) : Int) = r at *
  generalize 2 ^ m = q at *
  omega
theorem i64_and1 (n : Int) : bits .and .i64 n 1 = n % 2 := i64_mask n 1 (by omega)
theorem i64_and7 (n : Int) : bits .and .i64 n 7 = n % 8 := i64_mask n 3 (by omega)
theorem i64_and63 (n : Int) : bits .and .i64 n 63 = n % 64 := i64_mask n 6 (by omega)
theorem i64_and16 (n : Int) : bits .and .i64 n 65535 = n % 65536 := i64_mask n 16 (by omega)
/-- Some nodes, and those with one more. -/
structure Two (K : Int) (n : Nat) (FL AL : List Int) : Prop where
  sub : ∀ x ∈ FL, x ∈ AL
  or_ : ∀ x ∈ AL, x ∈ FL ∨ x = K
  nk : K ∉ FL
  ndF : FL.Nodup
  ndA : AL.Nodup
  bA : ∀ x ∈ AL, 0 ≤ x ∧ x < (n : Int)
  has : K < (n : Int) → K ∈ AL
  lF : FL.length ≤ n
  lA : AL.length ≤ n
theorem Two.nil {K : Int} (hK : 0 ≤ K) : Two K 0 [] [] := ⟨by simp, by simp, by simp, by simp, by simp, by simp, fun h => by simp at h; omega, by simp, by simp⟩
theorem nodup_snoc {l : List Int} {x : Int} (h : l.Nodup) (hx : x ∉ l) : (l ++ [x]).Nodup := by
  rw [List.nodup_append]
  exact ⟨h, by simp, fun a ha b hb => by simp at hb; subst hb; rintro rfl; exact hx ha⟩
section
variable {K : Int} {n : Nat} {FL AL : List Int}
theorem Two.noA (h : Two K n FL AL) : (n : Int) ∉ AL := fun hc => by have := (h.bA _ hc).2; omega
theorem Two.one (h : Two K n FL AL) (e : (n : Int) = K) : Two K (n + 1) FL (AL ++ [(n : Int)]) :=
  ⟨fun x hx => List.mem_append_left _ (h.sub x hx), fun x hx => by
    rcases List.mem_append.1 hx with hx | hx
    · exact h.or_ x hx
    · simp at hx
      exact .inr (by omega), h.nk, h.ndF, nodup_snoc h.ndA h.noA, fun x hx => by
    rcases List.mem_append.1 hx with hx | hx
    · have := h.bA x hx
      omega
    · simp at hx
      omega, fun _ => by rw [← e]; simp, by have := h.lF; omega, by have := h.lA; simp; omega⟩
theorem Two.both (h : Two K n FL AL) (e : ¬ (n : Int) = K) : Two K (n + 1) (FL ++ [(n : Int)]) (AL ++ [(n : Int)]) :=
  ⟨fun x hx => by
    rcases List.mem_append.1 hx with hx | hx
    · exact List.mem_append_left _ (h.sub x hx)
    · exact List.mem_append_right _ hx, fun x hx => by
    rcases List.mem_append.1 hx with hx | hx
    · exact (h.or_ x hx).imp (List.mem_append_left _) id
    · exact .inl (List.mem_append_right _ hx), fun hx => by
    rcases List.mem_append.1 hx with hx | hx
    · exact h.nk hx
    · simp at hx
      exact e hx.symm, nodup_snoc h.ndF (fun hc => h.noA (h.sub _ hc)), nodup_snoc h.ndA h.noA, fun x hx => by
    rcases List.mem_append.1 hx with hx | hx
    · have := h.bA x hx
      omega
    · simp at hx
      omega, fun hk => List.mem_append_left _ (h.has (by omega)), by have := h.lF; simp; omega, by have := h.lA; simp; omega⟩
theorem Two.skip (h : Two K n FL AL) (e : ¬ (n : Int) = K) : Two K (n + 1) FL AL :=
  ⟨h.sub, h.or_, h.nk, h.ndF, h.ndA, fun x hx => by have := h.bA x hx; omega, fun hk => h.has (by omega), by have := h.lF; omega, by have := h.lA; omega⟩
theorem Two.goodF (h : Two K 8 FL AL) : GoodN FL := ⟨h.ndF, fun x hx => h.bA x (h.sub x hx)⟩
theorem Two.goodA (h : Two K 8 FL AL) : GoodN AL := ⟨h.ndA, fun x hx => h.bA x hx⟩
end
set_option maxHeartbeats 4000000 in
theorem ringComes_walk (a b s : Int) (w : World) (ha : I64 a) (hb : I64 b) (hs : I64 s) (hT : Four w) : Calls Tryd.prog 3 #[.int .i64 a, .int .i64 b, .int .i64 s] w (Gives (.bool true) w) := by
  have HT := Lib.hid hT
  have b1 := i64_and7 b
  have b2 := i64_and63
  have b3 := i64_and24 s
  have b4 := i64_and1
  clear hT
  go_enter Tryd.func3, Tryd.ntmps3
  go_wp2_with fail
  obtain ⟨K, hK, hK8⟩ : ∃ K : Nat, b % 8 = (K : Int) ∧ K < 8 := ⟨(b % 8).toNat, by omega, by omega⟩
  obtain ⟨P, hP, hP1, hP2⟩ : ∃ P : Nat, 1 + a / 256 % 64 = (P : Int) ∧ 1 ≤ P ∧ P ≤ 64 := ⟨(1 + a / 256 % 64).toNat, by omega, by omega, by omega⟩
  rw [hK, hP]
  generalize a / 256 % 64 = aq at *
  generalize a / 256 = ar at *
  clear b1
  go_loopw [9, 10, 11] (fun v9 v10 i wr => ∃ (va vb : Value) (k : Nat) (FL AL : List Int), va = v9 ∧ vb = v10 ∧ k ≤ 8 ∧ i = .int .i64 (k : Int) ∧ Two (K : Int) k FL AL ∧ Fam wr w.heap.size 3 1 [(va, FL.length, ints FL), (vb, AL.length, ints AL)] ∧ Below w.heap.size w wr) (fun _ _ i _ => 8 - (intOf i).toNat)
  case atStart => exact ⟨_, _, 0, [], [], rfl, rfl, by omega, rfl, Two.nil (by omega), Fam.none_cons (Fam.none_cons Fam.nil), Below.refl _ _⟩
  case round =>
    obtain ⟨va, vb, k, FL, AL, rfl, rfl, hk, rfl, h2, hF, hb⟩ := hrel
    by_cases hlt : k < 8
    · have hltz : (k : Int) < 8 := by omega
      have lF : FL.length ≤ 1000000 := by have := h2.lF; omega
      have lA : AL.length ≤ 1000000 := by have := h2.lA; omega
      have hsz := hb.size
      have H2 := Lib.hid (And.intro h2 (And.intro hF hb))
      clear h2 hF hb
      by_cases hkK : (k : Int) = (K : Int)
      · obtain rfl : k = K := by omega
        go_wp2_with (at_builtin; refine append_fam rfl (.tmp 34) (.tmp 36) rfl w.heap.size [(va, FL.length, ints FL)] [] vb AL.length AL (k : Int) rfl H2.out.2.1 wr.heap.size rfl rfl lA hsz ?_; intro v' w2 hF2 hb2 hs2)
        obtain ⟨h2, hF, hb⟩ := H2.out
        exact ⟨⟨_, _, k + 1, FL, AL ++ [(k : Int)], rfl, rfl, by omega, by go_num, h2.one rfl, by simpa using hF2, hb.trans hb2⟩, by simp [intOf]; omega⟩
      · by_cases hbit : a / 2 ^ k % 2 = 1
        · go_wp2_with (first
            | (at_builtin; refine append_fam rfl (.tmp 43) (.tmp 45) rfl w.heap.size [] [(vb, AL.length, ints AL)] va FL.length FL (k : Int) rfl H2.out.2.1 wr.heap.size rfl rfl lF hsz ?_; intro v' w2 hF2 hb2 hs2; have hsz2 : w.heap.size ≤ w2.heap.size := Nat.le_trans hsz hs2)
            | (at_builtin; refine append_fam rfl (.tmp 47) (.tmp 49) rfl w.heap.size [(v', FL.length + 1, ints (FL ++ [(k : Int)]))] [] vb AL.length AL (k : Int) rfl hF2 w2.heap.size rfl rfl lA hsz2 ?_; intro v'' w3 hF3 hb3 hs3))
          obtain ⟨h2, hF, hb⟩ := H2.out
          exact ⟨⟨_, _, k + 1, FL ++ [(k : Int)], AL ++ [(k : Int)], rfl, rfl, by omega, by go_num, h2.both hkK, by simpa using hF3, (hb.trans hb2).trans hb3⟩, by simp [intOf]; omega⟩
        · go_wp2_with fail
          obtain ⟨h2, hF, hb⟩ := H2.out
          exact ⟨⟨_, _, k + 1, FL, AL, rfl, rfl, by omega, by go_num, h2.skip hkK, hF, hb⟩, by simp [intOf]; omega⟩
    · obtain rfl : k = 8 := by omega
      obtain ⟨A1, c1, rfl, q1, q2⟩ := own_shape (hF.own (v := va) (n := FL.length) (xs := ints FL) (by simp))
      obtain ⟨A2, c2, rfl, q3, q4⟩ := own_shape (hF.own (v := vb) (n := AL.length) (xs := ints AL) (by simp))
      have R1 := Reads.of_own (hF.own (v := .slice A1 FL.length c1) (n := FL.length) (xs := ints FL) (by simp))
      have R2 := Reads.of_own (hF.own (v := .slice A2 AL.length c2) (n := AL.length) (xs := ints AL) (by simp))
      have lF := h2.lF
      have lA := h2.lA
      have HN := Lib.hid (new_any (c := c1) R1 h2.goodF lF P hP1 hP2 (HT.out.on hb))
      have HX := Lib.hid (And.intro h2 (And.intro R2 hb))
      clear h2 hF hb R1 R2
      go_wp2_with fail
      refine HN.out.mono ?_
      rintro e w1 ⟨p1, rfl, hR1, hb1⟩
      have HN2 := Lib.hid (new_any (w := w1) (c := c2) ((HX.out.2.1.below hb1).more hb1.size) HX.out.1.goodA lA P hP1 hP2 ((HT.out.on HX.out.2.2).on hb1))
      have HR1 := Lib.hid (And.intro hR1 hb1)
      clear hR1 hb1 HN
      go_wp2_with fail
      refine HN2.out.mono ?_
      rintro e w2 ⟨p2, rfl, hR2, hb2⟩
      have e1 := eql_some_nil p1 w2
      have e2 := eql_some_nil p2 w2
      have HR2 := Lib.hid (And.intro (HR1.out.1.on hb2) (And.intro hR2 (below_then (below_then HX.out.2.2 HR1.out.2) hb2)))
      clear hR2 hb2 HN2 HR1
      obtain ⟨S, hS, hS0⟩ : ∃ S : Int, s % 16777216 = S ∧ InR S := ⟨_, rfl, by unfold InR; omega⟩
      rw [hS] at b3
      have zl : ∀ l : List Int, l.length ≤ 8 → (zof l P).length ≤ 100000 := fun l hl => by rw [zof_len]; have := Nat.mul_le_mul hl hP2; omega
      have HH1 := Lib.hid (home_any HR2.out.1 (zl FL lF) S hS0)
      go_wp2_with fail
      refine HH1.out.mono ?_
      rintro e w3 ⟨m1, r1, rfl, hz1, hn1, hb3⟩
      have HH2 := Lib.hid (home_any (HR2.out.2.1.on hb3) (zl AL lA) S hS0)
      have HB3 := Lib.hid (below_then HR2.out.2.2 hb3)
      have HF1 := Lib.hid (And.intro hz1 hn1)
      clear hz1 hn1 hb3 HH1
      go_wp2_with fail
      refine HH2.out.mono ?_
      rintro e w4 ⟨m2, r2, rfl, _, hn2, hb4⟩
      have HB4 := Lib.hid (below_then HB3.out hb4)
      have hAne : zof AL P ≠ [] := fun h => by
        have h1 := zof_len AL P
        rw [h] at h1
        have h2 : 0 < AL.length := List.length_pos_of_mem (HX.out.1.has (by omega))
        have h3 := Nat.mul_pos h2 (show 0 < P by omega)
        simp at h1
        omega
      obtain ⟨rfl, hI2⟩ := hn2 hAne
      have HA := Lib.hid (awake_any (HT.out.on HB4.out))
      clear hb4 hn2 HH2
      have memA : ∀ x ∈ zof AL P, x ∈ zof FL P ∨ x.1 = (K : Int) := fun x hx => by
        obtain ⟨h1, h2⟩ := mem_zof.1 hx
        exact (HX.out.1.or_ _ h1).imp (fun h => mem_zof.2 ⟨h, h2⟩) id
      have memF : ∀ x ∈ zof FL P, x ∈ zof AL P := fun x hx => by
        obtain ⟨h1, h2⟩ := mem_zof.1 hx
        exact mem_zof.2 ⟨HX.out.1.sub _ h1, h2⟩
      by_cases hFL : FL = []
      · have hz : zof FL P = [] := by rw [hFL]; rfl
        obtain ⟨rfl, rfl⟩ := HF1.out.1 hz
        have hm2 : m2 = (K : Int) := by
          obtain ⟨q, hq, _⟩ := hI2
          rcases memA _ hq with h | h
          · rw [hz] at h
            simp at h
          · exact h
        subst hm2
        subst hFL
        go_wp2_with (refine HA.out.mono ?_; rintro e w5 ⟨rfl, hb5⟩)
        go_ret
        exact ⟨rfl, below_then HB4.out hb5⟩
      · have hFl : 0 < FL.length := by
          rcases FL with _ | ⟨x, r⟩
          · exact absurd rfl hFL
          · simp
        have hFne : zof FL P ≠ [] := fun h => by
          have h1 := zof_len FL P
          rw [h] at h1
          have h3 := Nat.mul_pos hFl (show 0 < P by omega)
          simp at h1
          omega
        obtain ⟨rfl, hI1⟩ := HF1.out.2 hFne
        have hlz : (0 : Int) < (FL.length : Int) := by omega
        by_cases hm2 : m2 = (K : Int)
        · subst hm2
          go_wp2_with (refine HA.out.mono ?_; rintro e w5 ⟨rfl, hb5⟩)
          go_ret
          exact ⟨rfl, below_then HB4.out hb5⟩
        · have hm : m1 = m2 := IsHome.uniq (fun x hx => by obtain ⟨_, k, _, h⟩ := mem_zof.1 hx; rw [h]; exact sp_in _ _) hI1 (hI2.less memF memA hm2)
          subst hm
          go_wp2_with (refine HA.out.mono ?_; rintro e w5 ⟨rfl, hb5⟩)
          go_ret
          exact ⟨rfl, below_then HB4.out hb5⟩
end Go.Proofs.YtjdehojbkogpkaaDoor
