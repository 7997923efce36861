/- RingSpots returns true. Conditions: the tables lie as start-up lays them. -/
import Derived.Test.YtjdehojbkogpkaaDoorGComes
set_option linter.unusedVariables false
set_option linter.unusedSimpArgs false
set_option maxRecDepth 100000
namespace Go.Proofs.YtjdehojbkogpkaaDoor
open Go Go.RowKit Go.Maps
/-- Some nodes, among them K. -/
structure One (K : Int) (n : Nat) (L : List Int) : Prop where
  nd : L.Nodup
  b : ∀ x ∈ L, 0 ≤ x ∧ x < (n : Int)
  has : K < (n : Int) → K ∈ L
  len : L.length ≤ n
theorem One.nil {K : Int} (hK : 0 ≤ K) : One K 0 [] := ⟨by simp, by simp, fun h => by simp at h; omega, by simp⟩
section
variable {K : Int} {n : Nat} {L : List Int}
theorem One.more (h : One K n L) : One K (n + 1) (L ++ [(n : Int)]) :=
  ⟨nodup_snoc h.nd (fun hc => by have := (h.b _ hc).2; omega), fun x hx => by
    rcases List.mem_append.1 hx with hx | hx
    · have := h.b x hx
      omega
    · simp at hx
      omega, fun hk => by
    by_cases e : K = (n : Int)
    · rw [e]
      simp
    · exact List.mem_append_left _ (h.has (by omega)), by have := h.len; simp; omega⟩
theorem One.skip (h : One K n L) (e : ¬ (n : Int) = K) : One K (n + 1) L := ⟨h.nd, fun x hx => by have := h.b x hx; omega, fun hk => h.has (by omega), by have := h.len; omega⟩
theorem One.good (h : One K 8 L) : GoodN L := ⟨h.nd, h.b⟩
end
/-- The least so far of those at a place. -/
def LeastIn (Z Y : List (Int × Int)) (s m : Int) : Prop := (m, s) ∈ Z ∧ ∀ x, (x, s) ∈ Y → m ≤ x
theorem LeastIn.same {Z Y : List (Int × Int)} {s m x q : Int} (h : LeastIn Z Y s m) (hq : q ≠ s) : LeastIn Z (Y ++ [(x, q)]) s m := ⟨h.1, fun y hy => by
  rcases List.mem_append.1 hy with hy | hy
  · exact h.2 y hy
  · simp at hy
    exact absurd hy.2.symm hq⟩
theorem LeastIn.low {Z Y : List (Int × Int)} {s m x : Int} (h : LeastIn Z Y s m) (hx : (x, s) ∈ Z) : LeastIn Z (Y ++ [(x, s)]) s (min m x) := by
  refine ⟨?_, fun y hy => ?_⟩
  · rcases Int.le_total m x with hh | hh
    · rw [Int.min_eq_left hh]
      exact h.1
    · rw [Int.min_eq_right hh]
      exact hx
  · rcases List.mem_append.1 hy with hy | hy
    · have := h.2 y hy
      omega
    · simp at hy
      omega
set_option maxHeartbeats 4000000 in
theorem ringSpots_walk (a b k : Int) (w : World) (ha : I64 a) (hb : I64 b) (hk : I64 k) (hT : Four w) : Calls Tryd.prog 6 #[.int .i64 a, .int .i64 b, .int .i64 k] w (Gives (.bool true) w) := by
  have HT := Lib.hid hT
  have b1 := i64_and7 b
  have b2 := i64_and63
  have b3 := i64_and16 k
  have b4 := i64_and1
  clear hT
  go_enter Tryd.func6, Tryd.ntmps6
  go_wp2_with fail
  obtain ⟨K, hK, hK8⟩ : ∃ K : Nat, b % 8 = (K : Int) ∧ K < 8 := ⟨(b % 8).toNat, by omega, by omega⟩
  obtain ⟨P, hP, hP1, hP2⟩ : ∃ P : Nat, 1 + a / 256 % 64 = (P : Int) ∧ 1 ≤ P ∧ P ≤ 64 := ⟨(1 + a / 256 % 64).toNat, by omega, by omega, by omega⟩
  obtain ⟨J, hJ⟩ : ∃ J : Nat, k % 65536 = (J : Int) := ⟨(k % 65536).toNat, by omega⟩
  rw [hP]
  rw [hK] at b1
  rw [hJ] at b3
  generalize a / 256 % 64 = aq at *
  generalize a / 256 = ar at *
  have hP0 : ¬ (P : Int) = 0 := by omega
  have hPm : ¬ (P : Int) = -1 := by omega
  have hJ0 : 0 ≤ (J : Int) := by omega
  go_quiet (fail)
  obtain ⟨j, hj, hjP⟩ : ∃ j : Nat, (J : Int) % (P : Int) = (j : Int) ∧ j < P := ⟨J % P, by omega, Nat.mod_lt _ (by omega)⟩
  rw [hj]
  clear b1 b3 hJ0 hPm hP0
  go_wp2_with fail
  have hB0 : Below w.heap.size w (w.drewN nq) := below_drewN (Below.refl _ _) nq
  generalize w.drewN nq = w0 at *
  go_loopw [10, 11] (fun v i wr => ∃ (va : Value) (n : Nat) (L : List Int), va = v ∧ n ≤ 8 ∧ i = .int .i64 (n : Int) ∧ One (K : Int) n L ∧ wr.ownsRow w.heap.size 3 1 va L.length (ints L) ∧ Below w.heap.size w wr) (fun _ i _ => 8 - (intOf i).toNat)
  case atStart => exact ⟨_, 0, [], rfl, by omega, rfl, One.nil (by omega), World.ownsRow_nil .., hB0⟩
  case round =>
    obtain ⟨va, n, L, rfl, hn, rfl, h1, hF, hb⟩ := hrel
    by_cases hlt : n < 8
    · have hltz : (n : Int) < 8 := by omega
      have lL : L.length ≤ 1000000 := by have := h1.len; omega
      have hsz := hb.size
      have H1 := Lib.hid (And.intro h1 (And.intro hF hb))
      clear h1 hF hb
      by_cases hor : a / 2 ^ n % 2 = 1 ∨ (n : Int) = (K : Int)
      · have hgo : ∀ v' w', w'.ownsRow w.heap.size 3 1 v' (L.length + 1) (ints L ++ [.int .i64 (n : Int)]) → wr.grownBy w' va.ownBlock → w'.ownsRow w.heap.size 3 1 v' (L ++ [(n : Int)]).length (ints (L ++ [(n : Int)])) ∧ Below w.heap.size w w' := fun v' w' h hg => by
          rw [ints_snoc] at h
          exact ⟨by simpa using h, H1.out.2.2.trans (below_own H1.out.2.1 hg hsz)⟩
        have HGO := Lib.hid hgo
        clear hgo
        by_cases hbit : a / 2 ^ n % 2 = 1
        · clear hor
          go_wp2_with (at_builtin; refine append_int rfl (.tmp 44) (.tmp 46) rfl w.heap.size va L.length (ints L) (n : Int) rfl H1.out.2.1 wr.heap.size rfl rfl lL hsz ?_; intro v' w2 hF2 hg2)
          obtain ⟨g1, g2⟩ := HGO.out _ _ hF2 hg2
          exact ⟨⟨_, n + 1, L ++ [(n : Int)], rfl, by omega, by go_num, H1.out.1.more, g1, g2⟩, by simp [intOf]; omega⟩
        · have hnK := hor.resolve_left hbit
          obtain rfl : n = K := by omega
          clear hor
          go_wp2_with (at_builtin; refine append_int rfl (.tmp 44) (.tmp 46) rfl w.heap.size va L.length (ints L) (n : Int) rfl H1.out.2.1 wr.heap.size rfl rfl lL hsz ?_; intro v' w2 hF2 hg2)
          obtain ⟨g1, g2⟩ := HGO.out _ _ hF2 hg2
          exact ⟨⟨_, n + 1, L ++ [(n : Int)], rfl, by omega, by go_num, H1.out.1.more, g1, g2⟩, by simp [intOf]; omega⟩
      · have hbit : ¬ a / 2 ^ n % 2 = 1 := fun h => hor (.inl h)
        have hnK : ¬ (n : Int) = (K : Int) := fun h => hor (.inr h)
        have f1 : (a / 2 ^ n % 2 == 1) = false := by rw [beq_eq_false_iff_ne]; exact hbit
        have f2 : ((n : Int) == (K : Int)) = false := by rw [beq_eq_false_iff_ne]; exact hnK
        have f3 : (a / 2 ^ n % 2 == 1 || (n : Int) == (K : Int)) = false := by rw [f1, f2]; rfl
        clear hor
        go_wp2_with fail
        exact ⟨⟨_, n + 1, L, rfl, by omega, by go_num, H1.out.1.skip hnK, H1.out.2.1, H1.out.2.2⟩, by simp [intOf]; omega⟩
    · obtain rfl : n = 8 := by omega
      obtain ⟨A1, c1, rfl, q1, q2⟩ := own_shape hF
      have R1 := Reads.of_own hF
      have lL := h1.len
      have HN := Lib.hid (new_any (c := c1) R1 h1.good lL P hP1 hP2 (HT.out.on hb))
      have HX := Lib.hid (And.intro h1 (And.intro R1 hb))
      clear h1 hF hb R1
      go_wp2_with fail
      refine HN.out.mono ?_
      rintro e w1 ⟨p1, rfl, hR1, hb1⟩
      have e1 := eql_some_nil p1 w1
      have HB1 := Lib.hid (below_then HX.out.2.2 hb1)
      have HL := Lib.hid ((HX.out.2.1.below hb1).more hb1.size)
      have HR1 := Lib.hid hR1
      have HSP : Hid (Calls Tryd.prog 14 #[.string nodeB, .int .i64 (K : Int), .int .i64 (j : Int)] w1 (Gives (.int .i64 (sp (K : Int) j)) w1)) := Lib.hid (rspot_any nodeB (K : Int) (j : Int) w1 ⟨by omega, by omega⟩ ⟨by omega, by omega⟩ (by decide) (HT.out.on HB1.out).tab (HT.out.on HB1.out).tabs)
      clear hR1 hb1 HN
      go_wp2_with fail
      refine HSP.out.mono ?_
      rintro e w2 ⟨rfl, hb2⟩
      have hKL : (K : Int) ∈ L := HX.out.1.has (by omega)
      have hKZ : ((K : Int), sp (K : Int) j) ∈ zof L P := mem_zof.2 ⟨hKL, j, hjP, rfl⟩
      have hS0 := sp_in (K : Int) j
      clear HSP e1
      generalize sp (K : Int) j = S at *
      go_wp2_with fail
      go_loopw [15, 16] (fun le i wr => ∃ (m : Int) (q : Nat), q ≤ L.length ∧ le = .int .i64 m ∧ i = .int .i64 (q : Int) ∧ LeastIn (zof L P) (zof (L.take q) P) S m ∧ Below w1.heap.size w1 wr) (fun _ i _ => L.length - (intOf i).toNat)
      case atStart => exact ⟨_, 0, Nat.zero_le _, rfl, rfl, ⟨hKZ, fun x hx => by simp [zof] at hx⟩, hb2⟩
      case round =>
        obtain ⟨m, q, hq, rfl, rfl, hM, hb3⟩ := hrel
        obtain ⟨wo, rfl⟩ : ∃ wo : World, wo = wr := ⟨_, rfl⟩
        by_cases hql : q < L.length
        · have hqz : (q : Int) < (L.length : Int) := by omega
          obtain ⟨z, hz, hz8, hno, htk⟩ := good_cut HX.out.1.good hql
          have hzm : (z : Int) ∈ L := by
            rw [← hz, List.getD_eq_getElem?_getD, List.getElem?_eq_getElem hql]
            exact List.getElem_mem _
          have HQ := Lib.hid (And.intro hM (And.intro hb3 (And.intro htk (And.intro hzm hz))))
          have HQZ := Lib.hid hqz
          clear hM hb3 hno htk hz hzm
          go_wp2_with fail
          go_loopw [15, 17] (fun le i wr => ∃ (m : Int) (pp : Nat), pp ≤ P ∧ le = .int .i64 m ∧ i = .int .i64 (pp : Int) ∧ LeastIn (zof L P) (zof (L.take q) P ++ spots (z : Int) pp) S m ∧ Below w1.heap.size w1 wr) (fun _ i _ => P - (intOf i).toNat)
          case atStart => exact ⟨_, 0, Nat.zero_le _, rfl, rfl, by simpa [spots] using HQ.out.1, HQ.out.2.1⟩
          case round =>
            obtain ⟨m, pp, hpp, rfl, rfl, hM, hb4⟩ := hrel
            by_cases hpl : pp < P
            · have hpz : (pp : Int) < (P : Int) := by omega
              have kr : ∀ w', Below w1.heap.size w1 w' → ∃ ad, A1 = some ad ∧ w'.cell? (ad.add q) = some (.int .i64 (z : Int)) ∧ (ad.add q).block < w'.heap.size := fun w' hb' => by
                obtain ⟨ad, hA, hab, hc⟩ := (HL.out.below hb').int_at hql
                rw [HQ.out.2.2.2.2] at hc
                exact ⟨ad, hA, hc, by rw [block_of_add]; exact Nat.lt_of_lt_of_le hab hb'.size⟩
              obtain ⟨ad, rfl, hc, hcl⟩ := kr wr hb4
              have HT4 := HT.out.on (below_then HB1.out hb4)
              have HSP : Hid (Calls Tryd.prog 14 #[.string nodeB, .int .i64 (z : Int), .int .i64 (pp : Int)] wr (Gives (.int .i64 (sp (z : Int) pp)) wr)) := Lib.hid (rspot_any nodeB (z : Int) (pp : Int) wr ⟨by omega, by omega⟩ ⟨by omega, by omega⟩ (by decide) HT4.tab HT4.tabs)
              have HM := Lib.hid (And.intro hM hb4)
              have KR := Lib.hid kr
              have hzZ : ((z : Int), sp (z : Int) pp) ∈ zof L P := mem_zof.2 ⟨HQ.out.2.2.2.1, pp, hpl, rfl⟩
              have hss := spots_succ (z : Int) pp
              generalize sp (z : Int) pp = T at *
              have HZZ := Lib.hid (And.intro hzZ hss)
              clear hM hb4 HT4 kr hzZ hss
              go_wp2_with fail
              refine HSP.out.mono ?_
              rintro e w4 ⟨rfl, hb5⟩
              have hb6 := HM.out.2.trans (hb5.mono HM.out.2.size)
              obtain ⟨ad', had, hc2, hcl2⟩ := KR.out w4 hb6
              injection had with had
              subst had
              have HB6 := Lib.hid hb6
              clear hb5 hb6 hc hcl KR HSP
              by_cases hTS : T = S
              · subst hTS
                have hlow := HM.out.1.low HZZ.out.1
                rw [List.append_assoc, ← HZZ.out.2] at hlow
                have HLOW := Lib.hid hlow
                clear hlow
                rcases Int.lt_trichotomy m (z : Int) with hlt | rfl | hlt
                · have h2 : ¬ (z : Int) < m := by omega
                  have hmin : min m (z : Int) = m := by omega
                  go_wp2_with fail
                  exact ⟨⟨m, pp + 1, hpl, rfl, by go_num, by rw [hmin] at HLOW; exact HLOW.out, HB6.out⟩, by simp [intOf]; omega⟩
                · have h2 : ¬ (z : Int) < (z : Int) := by omega
                  have hmin : min (z : Int) (z : Int) = (z : Int) := by omega
                  go_wp2_with fail
                  exact ⟨⟨_, pp + 1, hpl, rfl, by go_num, by rw [hmin] at HLOW; exact HLOW.out, HB6.out⟩, by simp [intOf]; omega⟩
                · have h2 : ¬ m < (z : Int) := by omega
                  have hmin : min m (z : Int) = (z : Int) := by omega
                  go_wp2_with fail
                  exact ⟨⟨_, pp + 1, hpl, rfl, by go_num, by rw [hmin] at HLOW; exact HLOW.out, HB6.out⟩, by simp [intOf]; omega⟩
              · have hsame := HM.out.1.same (x := (z : Int)) hTS
                rw [List.append_assoc, ← HZZ.out.2] at hsame
                have HS := Lib.hid hsame
                clear hsame
                go_wp2_with fail
                exact ⟨⟨m, pp + 1, hpl, rfl, by go_num, HS.out, HB6.out⟩, by simp [intOf]; omega⟩
            · obtain rfl : pp = P := by omega
              rw [← zof_snoc, ← HQ.out.2.2.1] at hM
              have HM := Lib.hid (And.intro hM hb4)
              clear hM hb4
              go_wp2_with fail
              exact ⟨⟨m, q + 1, hql, rfl, by go_num, HM.out.1, HM.out.2⟩, by simp [intOf]; omega⟩
        · obtain rfl : q = L.length := by omega
          rw [List.take_of_length_le (Nat.le_refl _)] at hM
          have hb5 := below_then HB1.out hb3
          have HH := Lib.hid (home_any (HR1.out.on hb3) (by rw [zof_len]; have := Nat.mul_le_mul lL hP2; omega) S hS0)
          have HB5 := Lib.hid hb5
          have HM := Lib.hid hM
          clear hM hb3 hb5
          go_wp2_with fail
          refine HH.out.mono ?_
          rintro e w4 ⟨m1, er, rfl, _, hn, hb6⟩
          obtain ⟨rfl, hI⟩ := hn (fun h => by rw [h] at hKZ; simp at hKZ)
          obtain ⟨i1, i2⟩ := hI.at_ hS0 (fun x hx => by obtain ⟨_, k, _, h⟩ := mem_zof.1 hx; rw [h]; exact sp_in _ _) hKZ
          obtain rfl : m1 = m := Int.le_antisymm (i2 _ HM.out.1) (HM.out.2 _ i1)
          have HB6 := Lib.hid (below_then HB5.out hb6)
          have HA := Lib.hid (awake_any (HT.out.on HB6.out))
          clear hb6 hn hI i1 i2
          go_wp2_with fail
          refine HA.out.mono ?_
          rintro e w5 ⟨rfl, hb7⟩
          go_wp2_with fail
          go_ret
          exact ⟨rfl, below_then HB6.out hb7⟩
end Go.Proofs.YtjdehojbkogpkaaDoor
