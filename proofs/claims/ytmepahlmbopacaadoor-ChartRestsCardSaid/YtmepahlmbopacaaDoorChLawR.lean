/- ChartRests returns true. Conditions: the tables lie as start-up lays them. -/
import Derived.Test.YtmepahlmbopacaaDoorChRefM
import Derived.Deep.RegionHeld3
set_option linter.unusedVariables false
set_option linter.unusedSimpArgs false
set_option maxRecDepth 100000
namespace Go.Proofs.YtmepahlmbopacaaDoor.Ct
open Go Go.RowKit Go.Maps
theorem i64_and1 (n : Int) : bits .and .i64 n 1 = n % 2 := i64_mask n 1 (by omega)
theorem i64_and63 (n : Int) : bits .and .i64 n 63 = n % 64 := i64_mask n 6 (by omega)
theorem i64_and15 (n : Int) : bits .and .i64 n 15 = n % 16 := i64_mask n 4 (by omega)
/-- Some nodes, and those with one more. -/
structure Two (K : Int) (n : Nat) (FL AL : List Int) : Prop where
  sub : ∀ x ∈ FL, x ∈ AL
  or_ : ∀ x ∈ AL, x ∈ FL ∨ x = K
  nk : K ∉ FL
  ndF : FL.Nodup
  ndA : AL.Nodup
  bA : ∀ x ∈ AL, 0 ≤ x ∧ x < (n : Int)
  has : K < (n : Int) → K ∈ AL
  lF : FL.length ≤ n
  lA : AL.length ≤ n
theorem Two.nil {K : Int} (hK : 0 ≤ K) : Two K 0 [] [] := ⟨by simp, by simp, by simp, by simp, by simp, by simp, fun h => by simp at h; omega, by simp, by simp⟩
theorem nodup_snoc {l : List Int} {x : Int} (h : l.Nodup) (hx : x ∉ l) : (l ++ [x]).Nodup := by
  rw [List.nodup_append]
  exact ⟨h, by simp, fun a ha b hb => by simp at hb; subst hb; rintro rfl; exact hx ha⟩
section
variable {K : Int} {n : Nat} {FL AL : List Int}
theorem Two.noA (h : Two K n FL AL) : (n : Int) ∉ AL := fun hc => by have := (h.bA _ hc).2; omega
theorem Two.one (h : Two K n FL AL) (e : (n : Int) = K) : Two K (n + 1) FL (AL ++ [(n : Int)]) :=
  ⟨fun x hx => List.mem_append_left _ (h.sub x hx), fun x hx => by
    rcases List.mem_append.1 hx with hx | hx
    · exact h.or_ x hx
    · simp at hx
      exact .inr (by omega), h.nk, h.ndF, nodup_snoc h.ndA h.noA, fun x hx => by
    rcases List.mem_append.1 hx with hx | hx
    · have := h.bA x hx
      omega
    · simp at hx
      omega, fun _ => by rw [← e]; simp, by have := h.lF; omega, by have := h.lA; simp; omega⟩
theorem Two.both (h : Two K n FL AL) (e : ¬ (n : Int) = K) : Two K (n + 1) (FL ++ [(n : Int)]) (AL ++ [(n : Int)]) :=
  ⟨fun x hx => by
    rcases List.mem_append.1 hx with hx | hx
    · exact List.mem_append_left _ (h.sub x hx)
    · exact List.mem_append_right _ hx, fun x hx => by
    rcases List.mem_append.1 hx with hx | hx
    · exact (h.or_ x hx).imp (List.mem_append_left _) id
    · exact .inl (List.mem_append_right _ hx), fun hx => by
    rcases List.mem_append.1 hx with hx | hx
    · exact h.nk hx
    · simp at hx
      exact e hx.symm, nodup_snoc h.ndF (fun hc => h.noA (h.sub _ hc)), nodup_snoc h.ndA h.noA, fun x hx => by
    rcases List.mem_append.1 hx with hx | hx
    · have := h.bA x hx
      omega
    · simp at hx
      omega, fun hk => List.mem_append_left _ (h.has (by omega)), by have := h.lF; simp; omega, by have := h.lA; simp; omega⟩
theorem Two.skip (h : Two K n FL AL) (e : ¬ (n : Int) = K) : Two K (n + 1) FL AL :=
  ⟨h.sub, h.or_, h.nk, h.ndF, h.ndA, fun x hx => by have := h.bA x hx; omega, fun hk => h.has (by omega), by have := h.lF; omega, by have := h.lA; omega⟩
theorem Two.goodF (h : Two K 8 FL AL) : GoodN FL := ⟨h.ndF, fun x hx => h.bA x (h.sub x hx)⟩
theorem Two.goodA (h : Two K 8 FL AL) : GoodN AL := ⟨h.ndA, fun x hx => h.bA x hx⟩
end
theorem Two.zsub {K : Int} {FL AL : List Int} {P : Nat} (h : Two K 8 FL AL) : ∀ x ∈ zof FL P, x ∈ zof AL P := fun x hx => by
  rw [mem_zof] at *
  exact ⟨h.sub _ hx.1, hx.2⟩
theorem Two.zor {K : Int} {FL AL : List Int} {P : Nat} (h : Two K 8 FL AL) : ∀ x ∈ zof AL P, x ∈ zof FL P ∨ x.1 = K := fun x hx => by
  rw [mem_zof] at *
  exact (h.or_ _ hx.1).imp (fun h1 => ⟨h1, hx.2⟩) id
/-- A shard that moves goes to the one that comes. -/
theorem goes_to {K n : Int} {FL AL H H2 : List Int} {P k : Nat} (h : Two K 8 FL AL) (h1 : Homes (zof FL P) n H) (h2 : Homes (zof AL P) n H2) (hk : k < H.length) (hl : H2.length = H.length) (hne : H.getD k 0 ≠ H2.getD k 0) : H2.getD k 0 = K := by
  by_cases e : H2.getD k 0 = K
  · exact e
  · exact absurd ((h1 k hk).uniq zof_in ((h2 k (by omega)).less h.zsub h.zor e)) hne
theorem newB_yes {l : List Int} {P : Nat} (hg : GoodN l) (h1 : 1 ≤ P) (h2 : P ≤ 64) : newB l (P : Int) = true := by
  unfold newB
  rw [goodB_iff.2 hg, Bool.true_and]
  simp
  omega
theorem firstE_yes {l : List Int} {P : Nat} {n : Int} (hg : GoodN l) (h1 : 1 ≤ P) (h2 : P ≤ 64) (hn : mayS n = true) (hl : l ≠ []) : firstE l (P : Int) n = 0 := by
  unfold firstE
  rw [if_neg (by rw [newB_yes hg h1 h2, hn]; simp), if_neg hl]
theorem own_neg {w : World} {b p e s : Nat} {A : Option Addr} {n c : Nat} {xs : List Value} (h : w.ownsRow b e s (.slice A n c) n xs) (hp : p + 1 ≤ b) : ∀ ad, A = some ad → ad.block ≠ p := fun ad hA he => by
  subst hA
  have := (h.lt ad.block (by
    rcases h.2 with ⟨h1, _⟩ | ⟨g, cap, cur, h1, _⟩
    · simp at h1
    · injection h1 with h1 _ _
      injection h1 with h1
      subst h1
      rfl)).1
  omega
theorem reads_set3 {w : World} {B n : Nat} {A : Option Addr} {xs : List Value} (h : Reads w B 3 A n xs) {p : Nat} (hne : ∀ ad, A = some ad → ad.block ≠ p) (j : Nat) (u : Value) : Reads (w.setCell ⟨p, j, none⟩ u) B 3 A n xs :=
  ⟨h.1, fun hn => by
    obtain ⟨ad, e, hb, hc⟩ := h.2 hn
    exact ⟨ad, e, hb, fun k x hx => (World.cell?_setCell_other w ⟨p, j, none⟩ _ u (fun e2 => hne ad e (by have h3 := congrArg Addr.block e2; simp only [block_of_add] at h3; first | exact h3 | exact h3.symm))).trans (hc k x hx)⟩⟩
set_option maxHeartbeats 16000000 in
theorem chartRests_walk (a sh one : Int) (w : World) (hT : Four w) : Calls Tryd.prog 4 #[.int .i64 a, .int .i64 sh, .int .i64 one] w (Gives (.bool true) w) := by
  have HT := Lib.hid hT
  have b1 := i64_and7 one
  have b2 := i64_and63
  have b3 := i64_and15 sh
  have b4 := i64_and1
  have HAW := Lib.hid (fun W' => cawake_any W')
  clear hT
  go_enter Tryd.func4, Tryd.ntmps4
  go_wp2_with fail
  obtain ⟨K, hK, hK8⟩ : ∃ K : Nat, one % 8 = (K : Int) ∧ K < 8 := ⟨(one % 8).toNat, by omega, by omega⟩
  obtain ⟨P, hP, hP1, hP2⟩ : ∃ P : Nat, 1 + a / 256 % 64 = (P : Int) ∧ 1 ≤ P ∧ P ≤ 64 := ⟨(1 + a / 256 % 64).toNat, by omega, by omega, by omega⟩
  obtain ⟨N, hN, hN1, hN2⟩ : ∃ N : Nat, 1 + sh % 16 = (N : Int) ∧ 1 ≤ N ∧ N ≤ 16 := ⟨(1 + sh % 16).toNat, by omega, by omega, by omega⟩
  rw [hK]
  have HPN := Lib.hid (And.intro hP hN)
  have hms : mayS (N : Int) = true := by unfold mayS; simp; omega
  have HMS := Lib.hid hms
  clear hP hN b1 hms
  go_loopw [7, 8, 10] (fun v9 v10 i wr => ∃ (va vb : Value) (k : Nat) (FL AL : List Int), va = v9 ∧ vb = v10 ∧ k ≤ 8 ∧ i = .int .i64 (k : Int) ∧ Two (K : Int) k FL AL ∧ Fam wr w.heap.size 3 1 [(va, FL.length, ints FL), (vb, AL.length, ints AL)] ∧ Below w.heap.size w wr) (fun _ _ i _ => 8 - (intOf i).toNat)
  case atStart => exact ⟨_, _, 0, [], [], rfl, rfl, by omega, rfl, Two.nil (by omega), Fam.none_cons (Fam.none_cons Fam.nil), Below.refl _ _⟩
  case round =>
    obtain ⟨va, vb, k, FL, AL, rfl, rfl, hk, rfl, h2, hF, hb⟩ := hrel
    by_cases hlt : k < 8
    · have hltz : (k : Int) < 8 := by omega
      have lF : FL.length ≤ 1000000 := by have := h2.lF; omega
      have lA : AL.length ≤ 1000000 := by have := h2.lA; omega
      have hsz := hb.size
      have H2 := Lib.hid (And.intro h2 (And.intro hF hb))
      clear h2 hF hb
      by_cases hkK : (k : Int) = (K : Int)
      · obtain rfl : k = K := by omega
        go_wp2_with (at_builtin; refine append_fam rfl (.tmp 30) (.tmp 32) rfl w.heap.size [(va, FL.length, ints FL)] [] vb AL.length AL (k : Int) rfl H2.out.2.1 wr.heap.size rfl rfl lA hsz ?_; intro v' w2 hF2 hb2 hs2)
        obtain ⟨h2, hF, hb⟩ := H2.out
        exact ⟨⟨_, _, k + 1, FL, AL ++ [(k : Int)], rfl, rfl, by omega, by go_num, h2.one rfl, by simpa using hF2, hb.trans hb2⟩, by simp [intOf]; omega⟩
      · by_cases hbit : a / 2 ^ k % 2 = 1
        · go_wp2_with (first
            | (at_builtin; refine append_fam rfl (.tmp 39) (.tmp 41) rfl w.heap.size [] [(vb, AL.length, ints AL)] va FL.length FL (k : Int) rfl H2.out.2.1 wr.heap.size rfl rfl lF hsz ?_; intro v' w2 hF2 hb2 hs2; have hsz2 : w.heap.size ≤ w2.heap.size := Nat.le_trans hsz hs2)
            | (at_builtin; refine append_fam rfl (.tmp 43) (.tmp 45) rfl w.heap.size [(v', FL.length + 1, ints (FL ++ [(k : Int)]))] [] vb AL.length AL (k : Int) rfl hF2 w2.heap.size rfl rfl lA hsz2 ?_; intro v'' w3 hF3 hb3 hs3))
          obtain ⟨h2, hF, hb⟩ := H2.out
          exact ⟨⟨_, _, k + 1, FL ++ [(k : Int)], AL ++ [(k : Int)], rfl, rfl, by omega, by go_num, h2.both hkK, by simpa using hF3, (hb.trans hb2).trans hb3⟩, by simp [intOf]; omega⟩
        · go_wp2_with fail
          obtain ⟨h2, hF, hb⟩ := H2.out
          exact ⟨⟨_, _, k + 1, FL, AL, rfl, rfl, by omega, by go_num, h2.skip hkK, hF, hb⟩, by simp [intOf]; omega⟩
    · obtain rfl : k = 8 := by omega
      rw [show ((8 : Nat) : Int) = 8 from rfl]
      obtain ⟨wo, hwo⟩ : ∃ wo : World, wo = wr := ⟨_, rfl⟩
      subst hwo
      obtain ⟨A1, c1, rfl, q1, q2⟩ := own_shape (hF.own (v := va) (n := FL.length) (xs := ints FL) (by simp))
      obtain ⟨A2, c2, rfl, q3, q4⟩ := own_shape (hF.own (v := vb) (n := AL.length) (xs := ints AL) (by simp))
      have R1 := Reads.of_own (hF.own (v := .slice A1 FL.length c1) (n := FL.length) (xs := ints FL) (by simp))
      have R2 := Reads.of_own (hF.own (v := .slice A2 AL.length c2) (n := AL.length) (xs := ints AL) (by simp))
      have lF := h2.lF
      have lA := h2.lA
      have H2 := Lib.hid (And.intro h2 hb)
      clear hF b4
      by_cases hF0 : FL.length = 0
      · have hFz : (((FL.length : Nat) : Int) == 0) = true := by simp [hF0]
        clear h2 hb R1 R2
        generalize FL.length = fl at *
        go_wp2_with fail
        refine (HAW.out _).mono ?_
        rintro en w1 ⟨rfl, hb1⟩
        go_wp2_with fail
        go_ret
        exact ⟨rfl, below_then H2.out.2 hb1⟩
      · have hFz : (((FL.length : Nat) : Int) == 0) = false := by rw [beq_eq_false_iff_ne]; omega
        have hFne : FL ≠ [] := fun h => hF0 (by rw [h]; rfl)
        have hAne : AL ≠ [] := fun h => by
          rcases FL with _ | ⟨x, r⟩
          · exact hFne rfl
          · have := h2.sub x (by simp)
            rw [h] at this
            simp at this
        have hfe := firstE_yes (n := (N : Int)) h2.goodF hP1 hP2 HMS.out hFne
        have HFI := Lib.hid (first_any (w := wo) (c := c1) R1 (Nat.le_refl _) (by unfold maxLen; omega) (P : Int) (N : Int) (HT.out.on hb))
        unfold FirstPost at HFI
        rw [hfe] at HFI
        have HR2 := Lib.hid (And.intro R2 (And.intro hAne (And.intro (show AL.length ≤ maxLen by unfold maxLen; omega) (HT.out.on hb))))
        clear h2 hb R1 R2 hFne hAne hfe hF0
        generalize hfl : FL.length = fl at *
        have HFL := Lib.hid hfl
        generalize hal : AL.length = al at *
        have HAL := Lib.hid hal
        clear hfl hal
        have hp := HPN.out.1
        have hn := HPN.out.2
        go_upto_region 14 with fail
        try rw [hp]
        go_wp2_with fail
        try rw [hn]
        clear hp hn
        refine HFI.out.mono ?_
        rintro en w2 ⟨E, A3, n3, c3, H, rfl, hRH, hnc, hcm, hor, hb2⟩
        rcases hor with ⟨_, rfl, hn3, hHs⟩ | ⟨hbad, _⟩
        · obtain rfl : n3 = N := by omega
          have hHl := hRH.len
          rw [Int.toNat_natCast] at hHs
          obtain ⟨U, hU⟩ : ∃ U, U = w2.alloc (.cells #[.int .i64 1, .slice A3 n3 c3] 24) := ⟨_, rfl⟩
          have hbU : Below w2.heap.size w2 U := by rw [hU]; exact (Below.refl _ w2).alloc (Nat.le_refl _) _
          have hmH : mayC 1 H = true := homes_may H2.out.1.goodF hHs (by omega) (by omega)
          have hpl : planE 1 H AL (P : Int) = 0 := by unfold planE; rw [if_neg (by rw [hmH]; simp), ← hHl]; exact firstE_yes H2.out.1.goodA hP1 hP2 HMS.out HR2.out.2.1
          have hb02 : Below wo.heap.size wo U := hb2.trans (hbU.mono hb2.size)
          have HPL := Lib.hid (plan_any (w := U) (c := c3) (c' := c2) 1 (hRH.below hbU) hbU.size (HR2.out.1.below hb02) hb02.size HR2.out.2.2.1 (P : Int) (HR2.out.2.2.2.on hb02))
          unfold PlanPost at HPL
          rw [hpl] at HPL
          have r0 : Row U w2.heap.size 24 [.int .i64 1, .slice A3 n3 c3] := by rw [hU]; exact Row.new w2 24 [.int .i64 1, .slice A3 n3 c3]
          have hne : ∀ ad, A3 = some ad → ad.block ≠ w2.heap.size := fun ad hA => by
            obtain ⟨ad', hA', hb', _⟩ := hRH.2 (by omega)
            rw [hA] at hA'
            injection hA' with hA'
            subst hA'
            omega
          have hg0 : GI w2 U w2.heap.size 1 0 A3 n3 c3 (app H ((dm H H H.length).take 0)) := by
            refine ⟨by rw [Int.natCast_zero, Int.add_zero]; exact r0, (hRH.below hbU).more hbU.size, hne, hnc, hcm, ?_, hbU, Nat.le_refl _⟩
            rw [Int.natCast_zero, Int.add_zero]
            exact hmH
          have HU := Lib.hid hU
          have HG0 := Lib.hid hg0
          have HH := Lib.hid (And.intro hHs (And.intro hHl (And.intro hmH (And.intro hb2 hbU))))
          clear hRH hnc hcm hHs hHl hU hbU hmH hpl hb02 r0 hne hg0 hb2 HFI
          go_wp2_with fail
          rw [← HU.out]
          refine HPL.out.mono ?_
          rintro en w3 ⟨v3, D, rfl, hown3, hpor, hb3⟩
          obtain ⟨Am, cm, rfl, _, _⟩ := own_shape hown3
          rcases hpor with ⟨_, H2', hl2, hHs2, rfl⟩ | ⟨hbad, _⟩
          · rw [Int.toNat_natCast] at hHs2
            have hg1 : GI w2 w3 w2.heap.size 1 0 A3 n3 c3 (app H ((dm H H2' H.length).take 0)) :=
              ⟨HG0.out.row.keep (hb3.block _ HG0.out.row.lt), (HG0.out.rd.below hb3).more hb3.size, HG0.out.ne, HG0.out.nc, HG0.out.cm, HG0.out.may, HH.out.2.2.2.2.trans (hb3.mono HH.out.2.2.2.2.size), Nat.le_refl _⟩
            have HGE := Lib.hid hg1
            have HGT := Lib.hid (fun k hk hne => goes_to (k := k) H2.out.1 HH.out.1 (by rw [HH.out.2.1]; exact hHs2) hk hl2 hne)
            have HV := Lib.hid (And.intro (Reads.of_own hown3) hb3)
            have HNE := Lib.hid (own_neg hown3 (show w2.heap.size + 1 ≤ U.heap.size by rw [HU.out]; simp))
            have HL2 := Lib.hid (And.intro hl2 hHs2)
            have HM5 := Lib.hid (homes_good H2.out.1.goodA hHs2)
            have HDN := Lib.hid (dm_len H H2' H.length)
            generalize hN' : (dm H H2' H.length).length = M at *
            have hM16 : M ≤ 16 := by have := HDN.out; have := HH.out.2.1; omega
            have HNN := Lib.hid hN'
            clear hN' hown3 hb3 hl2 hHs2 hg1 HPL
            go_wp2_with fail
            go_loopw [16] (fun v16 wq => ∃ (i : Nat) (Ai : Option Addr) (ci : Nat), i ≤ M ∧ v16 = .int .i64 (i : Int) ∧ GI w2 wq w2.heap.size 1 i Ai n3 ci (app H ((dm H H2' H.length).take i)) ∧ Reads wq wq.heap.size 3 Am M (mvs (dm H H2' H.length))) (fun v16 _ => M - (intOf v16).toNat)
            case atStart => exact ⟨0, A3, c3, Nat.zero_le _, rfl, HGE.out, HV.out.1⟩
            case round =>
              obtain ⟨i, Ai, ci, hi, rfl, hG, hRm⟩ := hrel
              by_cases hlt : i < M
              · have hltz : (i : Int) < (M : Int) := by omega
                obtain ⟨s, hsn, hmv, hne, hcur⟩ := app_next (a := H) (b := H2') (k := H.length) (i := i) (by rw [HNN.out]; exact hlt)
                obtain ⟨ad, hAm, hab, hil, v0, v1, v2⟩ := move_at hRm hlt
                have hgd : (dm H H2' H.length).getD i mv0 = ⟨(s : Int), H.getD s 0, H2'.getD s 0⟩ := by
                  rw [List.getD_eq_getElem?_getD, List.getElem?_eq_getElem hil, ← hmv]
                  rfl
                have htk : app H ((dm H H2' H.length).take (i + 1)) = (app H ((dm H H2' H.length).take i)).set s (H2'.getD s 0) := by
                  rw [List.take_succ_eq_append_getElem hil, app_snoc, hmv]
                  simp
                have hto := HGT.out s hsn hne
                have ht8 := HM5.out (H2'.getD s 0) (mem_getD (by rw [HL2.out.1]; exact hsn))
                have hsL : s < (app H ((dm H H2' H.length).take i)).length := by rw [app_len]; exact hsn
                rw [hgd] at v0 v1 v2
                simp only at v0 v1 v2
                obtain ⟨er, EN, Ln, hor, hcall⟩ := next_any hG (Below.refl _ _) hsL ht8 (fun h => hne h.symm) hcur
                rw [← htk] at hor
                have HOR := Lib.hid hor
                subst hAm
                have hadl : (ad.add (i * 3)).block < wr.heap.size := by rw [block_of_add]; exact hab
                rw [hto] at hcall v2
                generalize H.getD s 0 = f at *
                have p0 := hG.row.cell (j := 0) rfl
                have p1 := hG.row.cell (j := 1) rfl
                have pl := hG.row.lt
                have KS := Lib.hid (fun w' (hb : Below wr.heap.size wr w') => show w'.cell? ⟨w2.heap.size, 0, none⟩ = some (.int .i64 (1 + (i : Int))) ∧ w'.cell? ⟨w2.heap.size, 1, none⟩ = some (.slice Ai n3 ci) ∧ w'.cell? (ad.add (i * 3)) = some (.int .i64 (s : Int)) ∧ w'.cell? ⟨(ad.add (i * 3)).block, (ad.add (i * 3)).off + 1, none⟩ = some (.int .i64 f) ∧ w'.cell? ⟨(ad.add (i * 3)).block, (ad.add (i * 3)).off + 2, none⟩ = some (.int .i64 (K : Int)) from
                  ⟨(hb.cell (p := ⟨w2.heap.size, 0, none⟩) pl).trans p0, (hb.cell (p := ⟨w2.heap.size, 1, none⟩) pl).trans p1, (hb.cell hadl).trans v0, (hb.cell (p := ⟨(ad.add (i * 3)).block, (ad.add (i * 3)).off + 1, none⟩) hadl).trans v1, (hb.cell (p := ⟨(ad.add (i * 3)).block, (ad.add (i * 3)).off + 2, none⟩) hadl).trans v2⟩)
                have hbd : Below wr.heap.size wr wr.drew := below_drewN (Below.refl _ wr) 1
                have hbz : Below wr.heap.size wr (z0W wr).drew := below_drewN ((Below.refl _ wr).alloc (Nat.le_refl _) _) 1
                have HC1 := Lib.hid (hcall _ hbd)
                have HC2 := Lib.hid (hcall _ hbz)
                have HS0 := Lib.hid (KS.out _ hbd)
                have HZ0 := Lib.hid (KS.out _ hbz)
                have HG := Lib.hid (And.intro hG hRm)
                clear hor hcall hgd htk ht8 hsL hmv hne hcur hG hab hil hbd hbz hRm hto
                go_upto_region 21 with fail
                go_cut [17, 18] from 83 to 91 (fun s9 s10 wc => ∃ (y : Nat) (A3 : Option Addr) (n3 c3 : Nat), s9 = .pointer (some ⟨y, 0, none⟩) ∧ s10 = .int .i64 er ∧ Hid (NX wr wc y EN A3 n3 c3 Ln))
                case first =>
                  go_region_held3 (fun w' => w'.cell? ⟨w2.heap.size, 0, none⟩ = some (.int .i64 (1 + (i : Int))) ∧ w'.cell? ⟨w2.heap.size, 1, none⟩ = some (.slice Ai n3 ci) ∧ w'.cell? (ad.add (i * 3)) = some (.int .i64 (s : Int)) ∧ w'.cell? ⟨(ad.add (i * 3)).block, (ad.add (i * 3)).off + 1, none⟩ = some (.int .i64 f) ∧ w'.cell? ⟨(ad.add (i * 3)).block, (ad.add (i * 3)).off + 2, none⟩ = some (.int .i64 (K : Int)))
                    (first | exact HS6.out | exact HS5.out | exact HS0.out | exact HZ0.out | go_keep)
                    (first
                      | (go_at_call 13; with_reducible refine HC1.out.mono ?_; intro en w5 hpost; unfold NextP at hpost; obtain ⟨A5, n5, c5, rfl, hown, hb⟩ := hpost; have HP := Lib.hid (nx_last (E := EN) hown hb); have HS6 := Lib.hid (KS.out _ HP.out.bel); have HS5 := Lib.hid (KS.out w5 (below_d hb)); clear hown hb)
                      | (go_at_call 13; with_reducible refine HC2.out.mono ?_; intro en w5 hpost; unfold NextP at hpost; obtain ⟨A5, n5, c5, rfl, hown, hb⟩ := hpost; have HP := Lib.hid (nx_first (E := EN) hown hb); have HS6 := Lib.hid (KS.out _ HP.out.bel); have hob := nx_row hb; have o0 := hob.cell (j := 0) rfl; have o1 := hob.cell (j := 1) rfl; have of0 := hob.frozen 0; have of1 := hob.frozen 1; have ol := hob.lt; have HS5 := Lib.hid (KS.out w5 (below_z hb)); clear hown hb hob))
                  all_goals
                    go_wp2_with fail
                    go_meet
                  · exact ⟨_, A5, n5, c5, rfl, rfl, HP⟩
                  · exact ⟨_, A5, n5, c5, rfl, rfl, HP⟩
                case rest =>
                  obtain ⟨y, A5, n5, c5, rfl, rfl, HP⟩ := hcut
                  rcases HOR.out with ⟨rfl, rfl, rfl, hmay⟩ | ⟨rfl, rfl, rfl, hbig⟩
                  · obtain rfl : n5 = n3 := by
                      have := own_len HP.out.own
                      rw [app_len] at this
                      have := HH.out.2.1
                      omega
                    obtain ⟨g0, g1, g2, g3, g4, g5, g6, g7, g8⟩ := HG.out.1.next HP.out hmay
                    obtain ⟨_, _, _, _, m2⟩ := KS.out _ HP.out.bel
                    have hadc : (ad.add (i * 3)).block < wc.heap.size := Nat.lt_of_lt_of_le hadl HP.out.bel.size
                    have hRm2 := (reads_set3 (reads_set3 (HG.out.2.below HP.out.bel) HNE.out 0 (.int .i64 (1 + ((i + 1 : Nat) : Int)))) HNE.out 1 (.slice A5 n5 c5)).more HP.out.bel.size
                    have HG8 := Lib.hid (And.intro g8 hRm2)
                    clear g8 hmay HC1 HC2 HS0 HZ0 p0 p1 v0 v1 v2 hRm2
                    go_wp2_with fail
                    exact ⟨⟨i + 1, A5, c5, hlt, by go_num, HG8.out.1, by simpa using HG8.out.2⟩, by simp [intOf]; omega⟩
                  · exfalso
                    have := HDN.out
                    omega
              · obtain rfl : i = M := by omega
                have hnl : ¬ (i : Int) < (i : Int) := by omega
                have htk : (dm H H2' H.length).take i = dm H H2' H.length := List.take_of_length_le (by rw [HNN.out]; exact Nat.le_refl _)
                rw [htk, app_dm HL2.out.1.symm] at hG
                have hwr := hG.bel
                have hb1r : Below wo.heap.size wo wr := HH.out.2.2.2.1.trans (hwr.mono HH.out.2.2.2.1.size)
                have hpl2 : planE (1 + (i : Int)) H2' AL (P : Int) = 0 := by unfold planE; rw [if_neg (by rw [hG.may]; simp), HL2.out.1, ← HH.out.2.1]; exact firstE_yes H2.out.1.goodA hP1 hP2 HMS.out HR2.out.2.1
                have HPL := Lib.hid (plan_any (w := wr) (c := ci) (c' := c2) (1 + (i : Int)) hG.rd (Nat.le_refl _) (HR2.out.1.below hb1r) hb1r.size HR2.out.2.2.1 (P : Int) (HR2.out.2.2.2.on hb1r))
                unfold PlanPost at HPL
                rw [hpl2] at HPL
                have g0 := hG.row.cell (j := 0) rfl
                have g1 := hG.row.cell (j := 1) rfl
                have gl := hG.row.lt
                have HX := Lib.hid hb1r
                clear hG hRm htk hwr hb1r hpl2
                go_wp2_with fail
                refine HPL.out.mono ?_
                rintro en w5 ⟨v5, D5, rfl, hown5, hpor, hb5⟩
                rcases hpor with ⟨_, H5, hl5, hHs5, rfl⟩ | ⟨hbad, _⟩
                · rw [Int.toNat_natCast, HL2.out.1] at hHs5
                  obtain rfl : H2' = H5 := HL2.out.2.uniq zof_in hHs5 hl5.symm
                  rw [dm_same] at hown5
                  obtain ⟨A6, c6, rfl, _, _⟩ := own_shape hown5
                  have HB5 := Lib.hid (below_then H2.out.2 (below_then HX.out hb5))
                  clear hown5 hb5 hl5 hHs5 HPL
                  go_wp2_with fail
                  refine (HAW.out _).mono ?_
                  rintro en w6 ⟨rfl, hb6⟩
                  go_wp2_with fail
                  go_ret
                  exact ⟨rfl, below_then HB5.out hb6⟩
                · exact absurd rfl hbad
          · exact absurd rfl hbad
        · exact absurd rfl hbad
end Go.Proofs.YtmepahlmbopacaaDoor.Ct
