/- What New of the document's ring returns. Conditions: the nodes read as a list. -/
import Derived.Test.YtmepahlmbopacaaDoorChRefM
set_option linter.unusedVariables false
set_option linter.unusedSimpArgs false
set_option maxRecDepth 100000
namespace Go.Proofs.YtmepahlmbopacaaDoor.Ct
open Go Go.RowKit Go.Maps
def RNPost (l : List Int) (P : Int) (w : World) (en : Ending) (w' : World) : Prop :=
  ((newB l P = true ∧ ∃ A1 n1 c1, en = .returned (.tuple #[.agg #[.slice A1 n1 c1, .int .i64 P], .int .i64 0]) ∧ Reads w' w'.heap.size 1 A1 n1 (ints (srtN l 8)) ∧ Up (srtN l 8)) ∨
   (newB l P = false ∧ en = .returned (.tuple #[.agg #[.slice none 0 0, .int .i64 0], .int .i64 1]))) ∧ Below w.heap.size w w'
theorem filter_take_succ {l : List Int} {k : Nat} {N : Int} (hk : k < l.length) : (l.take (k + 1)).filter (fun x => x == N) = (l.take k).filter (fun x => x == N) ++ (if l.getD k 0 = N then [N] else []) := by
  rw [take_ext hk, List.filter_append]
  congr 1
  by_cases h : l.getD k 0 = N
  · rw [if_pos h, h]
    simp
  · rw [if_neg h]
    have : (l.getD k 0 == N) = false := by rw [beq_eq_false_iff_ne]; exact h
    simp only [List.filter_cons, this, List.filter_nil, Bool.false_eq_true, if_false]
theorem filter_take_len (l : List Int) (k : Nat) (N : Int) : ((l.take k).filter (fun x => x == N)).length ≤ l.length :=
  Nat.le_trans (List.length_filter_le _ _) (by rw [List.length_take]; omega)
theorem newB_no {l : List Int} {P : Int} (h : goodB l = false ∨ P < 1 ∨ 64 < P) : newB l P = false := by
  unfold newB
  rcases h with h | h | h
  · rw [h]; rfl
  · rw [Bool.and_eq_false_iff]; exact .inr (by simp; omega)
  · rw [Bool.and_eq_false_iff]; exact .inr (by simp; omega)
theorem own_ne {w : World} {b p : Nat} {A : Option Addr} {n c : Nat} {xs : List Value} (h : w.ownsRow b 3 1 (.slice A n c) n xs) (hp : p + 1 ≤ b) : ∀ ad, A = some ad → ad.block ≠ p := fun ad hA e => by
  subst hA
  have := (h.lt ad.block (by
    rcases h.2 with ⟨h1, _⟩ | ⟨g, cap, cur, h1, _⟩
    · simp at h1
    · injection h1 with h1 _ _
      injection h1 with h1
      subst h1
      rfl)).1
  omega
set_option maxHeartbeats 8000000 in
theorem rNew_any {w : World} {B : Nat} {A : Option Addr} {n c : Nat} {l : List Int} (hR : Reads w B 1 A n (ints l)) (hB : B ≤ w.heap.size) (P : Int) :
    Calls Tryd.prog 42 #[.slice A n c, .int .i64 P] w (RNPost l P w) := by
  have hln := hR.len
  obtain ⟨W, hW⟩ : ∃ W, W = w.alloc (.cells #[.slice none 0 0, .int .i64 0] 76) := ⟨_, rfl⟩
  have hB0 : Below w.heap.size w W := by rw [hW]; exact (Below.refl _ w).alloc (Nat.le_refl _) _
  have r0 : Row W w.heap.size 76 [.slice none 0 0, .int .i64 0] := by rw [hW]; exact Row.new w 76 [.slice none 0 0, .int .i64 0]
  have hRW := (hR.more hB).below hB0
  have hsW : w.heap.size + 1 ≤ W.heap.size := by rw [hW]; simp
  have KR := Lib.hid (fun w1 (hb : Below W.heap.size W w1) => show Row w1 w.heap.size 76 [.slice none 0 0, .int .i64 0] ∧ Reads w1 w.heap.size 1 A n (ints l) ∧ Below w.heap.size w w1 ∧ w.heap.size + 1 ≤ w1.heap.size from ⟨r0.keep (hb.block _ r0.lt), hRW.below (hb.mono hB0.size), hB0.trans (hb.mono hB0.size), Nat.le_trans hsW hb.size⟩)
  have HW := Lib.hid hW
  have HL := Lib.hid hln
  have HRR := Lib.hid (And.intro r0 hB0)
  have HSW := Lib.hid hsW
  clear hR hB hB0 r0 hRW hsW hW
  by_cases p1 : P < 1
  · have HE := Lib.hid (newB_no (l := l) (.inr (.inl p1)))
    clear hln
    go_enter Tryd.func42, Tryd.ntmps42
    go_wp2_with fail
    refine bodyPost_ret (v := .tuple #[.agg #[.slice none 0 0, .int .i64 0], .int .i64 1]) (by simp [results, Tryd.results42, go_sem]) rfl ⟨.inr ⟨HE.out, rfl⟩, ?_⟩
    first | exact HRR.out.2 | (rw [← HW.out]; exact HRR.out.2) | exact (Below.refl _ w).alloc (Nat.le_refl _) _
  · by_cases p2 : 64 < P
    · have HE := Lib.hid (newB_no (l := l) (.inr (.inr p2)))
      clear hln
      go_enter Tryd.func42, Tryd.ntmps42
      go_wp2_with fail
      refine bodyPost_ret (v := .tuple #[.agg #[.slice none 0 0, .int .i64 0], .int .i64 1]) (by simp [results, Tryd.results42, go_sem]) rfl ⟨.inr ⟨HE.out, rfl⟩, ?_⟩
      first | exact HRR.out.2 | (rw [← HW.out]; exact HRR.out.2) | exact (Below.refl _ w).alloc (Nat.le_refl _) _
    · by_cases p3 : (8 : Int) < (n : Int)
      · have HE := Lib.hid (newB_no (l := l) (P := P) (.inl (show goodB l = false from by
          cases hg : goodB l with
          | false => rfl
          | true => have := good_len (goodB_iff.1 hg); omega)))
        clear hln
        go_enter Tryd.func42, Tryd.ntmps42
        go_wp2_with fail
        refine bodyPost_ret (v := .tuple #[.agg #[.slice none 0 0, .int .i64 0], .int .i64 1]) (by simp [results, Tryd.results42, go_sem]) rfl ⟨.inr ⟨HE.out, rfl⟩, ?_⟩
        first | exact HRR.out.2 | (rw [← HW.out]; exact HRR.out.2) | exact (Below.refl _ w).alloc (Nat.le_refl _) _
      · have hn8 : n ≤ 8 := by omega
        have HP := Lib.hid (show 1 ≤ P ∧ P ≤ 64 by omega)
        have hll : l.length ≤ 8 := by omega
        have HLL := Lib.hid hll
        clear hln hll
        go_enter Tryd.func42, Tryd.ntmps42
        go_wp2_with fail
        rw [← HW.out]
        go_loopw [6, 7] (fun v i wr => ∃ (va : Value) (N : Nat), va = v ∧ i = .int .i64 (N : Int) ∧ N ≤ 8 ∧ wr.ownsRow W.heap.size 3 1 va (srtN l N).length (ints (srtN l N)) ∧ Below W.heap.size W wr) (fun _ i _ => 8 - (intOf i).toNat)
        case atStart => exact ⟨_, 0, rfl, rfl, by omega, World.ownsRow_nil .., Below.refl _ _⟩
        case round =>
          obtain ⟨va, N, rfl, rfl, hN, hown, hb⟩ := hrel
          by_cases hlt : N < 8
          · have hltz : (N : Int) < 8 := by omega
            have HS := Lib.hid (srtN_succ l N)
            have hsl := srtN_le l N
            have HO := Lib.hid (And.intro hown hb)
            generalize hK : srtN l N = K at *
            have HK := Lib.hid hK
            have hKl : K.length ≤ 8 := by have := HLL.out; omega
            clear hown hb hsl hK
            go_wp2_with fail
            go_loopw [6, 8] (fun v i wr => ∃ (vb : Value) (k : Nat), vb = v ∧ i = .int .i64 (k : Int) ∧ k ≤ n ∧ wr.ownsRow W.heap.size 3 1 vb (K ++ (l.take k).filter (fun x => x == (N : Int))).length (ints (K ++ (l.take k).filter (fun x => x == (N : Int)))) ∧ Below W.heap.size W wr) (fun _ i _ => n - (intOf i).toNat)
            case atStart => exact ⟨_, 0, rfl, rfl, Nat.zero_le _, by simpa using HO.out.1, HO.out.2⟩
            case round =>
              obtain ⟨vb, k, rfl, rfl, hk, hown, hb⟩ := hrel
              by_cases hkn : k < n
              · have hkz : (k : Int) < (n : Int) := by omega
                obtain ⟨_, hRl, _, hsz⟩ := KR.out wr hb
                obtain ⟨ad, rfl, hab, hc⟩ := hRl.int_at hkn
                have hadl : (ad.add k).block < wr.heap.size := by rw [block_of_add]; omega
                have hfs := filter_take_succ (l := l) (k := k) (N := (N : Int)) (by have := HL.out; omega)
                have hfl := filter_take_len l k (N : Int)
                have HFS := Lib.hid hfs
                have hws := hb.size
                have HO2 := Lib.hid (And.intro hown hb)
                generalize (l.take k).filter (fun x => x == (N : Int)) = F at *
                have hlen : (K ++ F).length ≤ 1000000 := by rw [List.length_append]; have := HLL.out; omega
                clear hfs hown hb hRl hfl
                generalize l.getD k 0 = x at *
                by_cases hx : x = (N : Int)
                · subst hx
                  have hbe : ((N : Int) == (N : Int)) = true := by simp
                  rw [if_pos rfl] at HFS
                  generalize hG : K ++ F = G at *
                  have HG := Lib.hid hG
                  clear hG
                  go_wp2_with (at_builtin; refine append_int rfl (.tmp 38) (.tmp 40) rfl W.heap.size vb G.length (ints G) (N : Int) rfl HO2.out.1 wr.heap.size rfl rfl hlen hws ?_; intro v' w2 hown2 hgr2)
                  refine ⟨⟨_, k + 1, rfl, by go_num, hkn, ?_, own_grown HO2.out.2 HO2.out.1 hgr2 hws⟩, by simp [intOf]; omega⟩
                  rw [HFS.out, ← List.append_assoc, HG.out, List.length_append, ← ints_snoc]
                  exact hown2
                · have hbe : (x == (N : Int)) = false := by rw [beq_eq_false_iff_ne]; exact hx
                  rw [if_neg hx, List.append_nil] at HFS
                  go_wp2_with fail
                  exact ⟨⟨_, k + 1, rfl, by go_num, hkn, by rw [HFS.out]; exact HO2.out.1, HO2.out.2⟩, by simp [intOf]; omega⟩
              · obtain rfl : k = n := by omega
                have hnl : ¬ (k : Int) < (k : Int) := by omega
                rw [List.take_of_length_le (by rw [HL.out]; exact Nat.le_refl _)] at hown
                have HO2 := Lib.hid (And.intro hown hb)
                clear hown hb
                go_wp2_with fail
                exact ⟨⟨_, N + 1, rfl, by go_num, hlt, by rw [HS.out]; exact HO2.out.1, HO2.out.2⟩, by simp [intOf]; omega⟩
          · obtain rfl : N = 8 := by omega
            rw [show ((8 : Nat) : Int) = 8 from rfl]
            have hsl := srtN_le l 8
            obtain ⟨A1, c1, rfl, _, _⟩ := own_shape hown
            have hRK := Reads.of_own hown
            have HNE := Lib.hid (own_ne hown HSW.out)
            have hbs := hb.size
            obtain ⟨rr, _, hbw, hsz⟩ := KR.out wr hb
            have HKR := Lib.hid (And.intro rr (And.intro hbw hRK))
            have HGU := Lib.hid (@good_of_up l)
            have HUG := Lib.hid (@up_of_good l)
            clear HRR
            have HRR := Lib.hid (And.intro rr hbw)
            clear hown hb
            generalize hK : srtN l 8 = K at *
            have HK := Lib.hid hK
            have hKl : K.length ≤ 8 := by have := HLL.out; omega
            have x0 := rr.cell (j := 0) rfl
            have x1 := rr.cell (j := 1) rfl
            have f0 := rr.frozen 0
            have f1 := rr.frozen 1
            have xl := rr.lt
            clear rr hbw hRK hsl hK
            by_cases hKn : K.length = n
            · have hKb : ((K.length : Int) != (n : Int)) = false := by simp [hKn]
              have HKN := Lib.hid hKn
              clear hKn
              go_wp2_with fail
              go_loopw [9] (fun i wq => ∃ k q : Nat, (k + 1 ≤ K.length ∨ k = 0) ∧ i = .int .i64 (((k + 1 : Nat)) : Int) ∧ wq = wr.drewN q ∧ Hid (∀ j, 1 ≤ j → j < k + 1 → K.getD (j - 1) 0 < K.getD j 0)) (fun i _ => K.length + 1 - (intOf i).toNat)
              case atStart => exact ⟨0, 0, .inr rfl, rfl, rfl, Lib.hid (fun j h1 h2 => absurd h1 (by omega))⟩
              case round =>
                obtain ⟨k, q, hk, rfl, rfl, HU⟩ := hrel
                by_cases hkl : k + 1 < K.length
                · have hkz : (k : Int) + 1 < (K.length : Int) := by omega
                  obtain ⟨ad, rfl, hab, hc⟩ := HKR.out.2.2.int_at hkl
                  obtain ⟨ad2, had2, hab2, hc2⟩ := HKR.out.2.2.int_at (k := k) (by omega)
                  injection had2 with had2
                  subst had2
                  have hl1 : (ad.add (k + 1)).block < wr.heap.size := by rw [block_of_add]; exact hab
                  have hl2 : (ad.add k).block < wr.heap.size := by rw [block_of_add]; exact hab
                  have hle : K.getD k 0 ≤ K.getD (k + 1) 0 := by
                    have hs := srtN_sorted l 8
                    rw [HK.out] at hs
                    exact sorted_get hs (by omega) hkl
                  have HNX := Lib.hid (show ¬ K.getD (k + 1) 0 = K.getD k 0 → ∀ j, 1 ≤ j → j < k + 1 + 1 → K.getD (j - 1) 0 < K.getD j 0 from fun hne j h1 h2 => by
                    rcases Nat.lt_or_ge j (k + 1) with h3 | h3
                    · exact HU.out j h1 h3
                    · obtain rfl : j = k + 1 := by omega
                      rw [Nat.add_sub_cancel]
                      omega)
                  have HNG := Lib.hid (show K.getD (k + 1) 0 = K.getD k 0 → goodB l = false from fun he => by
                    cases hg : goodB l with
                    | false => rfl
                    | true =>
                      have h3 := (HUG.out hg).2 (k + 1) (by omega) hkl
                      rw [Nat.add_sub_cancel] at h3
                      omega)
                  have e1 : ad.add (k + 1) = ⟨ad.block, ad.off + (k + 1), none⟩ := by unfold Addr.add; rw [if_neg (by omega)]
                  rw [e1] at hc hl1
                  clear e1 hle
                  generalize K.getD (k + 1) 0 = x at *
                  generalize K.getD k 0 = y at *
                  by_cases hxy : x = y
                  · have HE := Lib.hid (newB_no (l := l) (P := P) (.inl (HNG.out hxy)))
                    subst hxy
                    clear HNG HNX
                    go_wp2_with fail
                    go_quiet (fail)
                    go_wp2_with fail
                    have rs := fun q => ((show Row (wr.drewN q) w.heap.size 76 [.slice none 0 0, .int .i64 0] from HRR.out.1).set 0 (.slice none 0 0)).set 1 (.int .i64 0)
                    have g0 := fun q => (rs q).cell (j := 0) rfl
                    have g1 := fun q => (rs q).cell (j := 1) rfl
                    refine bodyPost_ret (v := .tuple #[.agg #[.slice none 0 0, .int .i64 0], .int .i64 1]) (by simp [results, Tryd.results42, go_sem, g0, g1]) rfl ⟨.inr ⟨HE.out, rfl⟩, ?_⟩
                    exact below_setCell (below_setCell (below_drewN HRR.out.2 _) (p := ⟨w.heap.size, 0, none⟩) (Nat.le_refl _) _) (p := ⟨w.heap.size, 1, none⟩) (Nat.le_refl _) _
                  · have hxb : (x == y) = false := by rw [beq_eq_false_iff_ne]; exact hxy
                    have HN2 := Lib.hid (HNX.out hxy)
                    clear HNG HNX hxy
                    go_wp2_with fail
                    go_quiet (fail)
                    go_wp2_with fail
                    exact ⟨⟨k + 1, _, .inl (by omega), by go_num, rfl, HN2⟩, by simp [intOf]; omega⟩
                · have hnl : ¬ (k : Int) + 1 < (K.length : Int) := by omega
                  have hup : Up K := fun j h1 h2 => HU.out j h1 (by omega)
                  have HE := Lib.hid (show newB l P = true from by
                    unfold newB
                    rw [HGU.out (by rw [HKN.out, HL.out]) hup, Bool.true_and]
                    simpa using HP.out)
                  have HUP := Lib.hid hup
                  clear hup
                  have z0 := fun q => (show Row (wr.drewN q) w.heap.size 76 [.slice none 0 0, .int .i64 0] from HRR.out.1).cell (j := 0) rfl
                  go_wp2_with fail
                  have rs := ((show Row (wr.drewN q) w.heap.size 76 [.slice none 0 0, .int .i64 0] from HRR.out.1).set 0 (.slice A1 K.length c1)).set 1 (.int .i64 P)
                  have g0 := rs.cell (j := 0) rfl
                  have g1 := rs.cell (j := 1) rfl
                  refine bodyPost_ret (v := .tuple #[.agg #[.slice A1 K.length c1, .int .i64 P], .int .i64 0]) (by simp [results, Tryd.results42, go_sem, g0, g1]) rfl ⟨.inl ⟨HE.out, A1, K.length, c1, rfl, ?_, by rw [HK.out]; exact HUP.out⟩, ?_⟩
                  · rw [HK.out]
                    have hne : ∀ ad, A1 = some ad → ad.block ≠ w.heap.size := HNE.out
                    have hsz : (((wr.drewN q).setCell ⟨w.heap.size, 0, none⟩ (.slice A1 K.length c1)).setCell ⟨w.heap.size, 1, none⟩ (.int .i64 P)).heap.size = wr.heap.size := by simp
                    rw [hsz]
                    exact reads_set_ne (reads_set_ne (HKR.out.2.2.drewN q) hne _ _) hne _ _
                  · exact below_setCell (below_setCell (below_drewN HRR.out.2 _) (p := ⟨w.heap.size, 0, none⟩) (Nat.le_refl _) _) (p := ⟨w.heap.size, 1, none⟩) (Nat.le_refl _) _
            · have hKb : ((K.length : Int) != (n : Int)) = true := by rw [bne_iff_ne]; omega
              have HE := Lib.hid (newB_no (l := l) (P := P) (.inl (show goodB l = false from by
                cases hg : goodB l with
                | false => rfl
                | true => have := (HUG.out hg).1; have := HL.out; omega)))
              clear hKn
              go_wp2_with fail
              have rs := (HRR.out.1.set 0 (.slice none 0 0)).set 1 (.int .i64 0)
              have g0 := rs.cell (j := 0) rfl
              have g1 := rs.cell (j := 1) rfl
              refine bodyPost_ret (v := .tuple #[.agg #[.slice none 0 0, .int .i64 0], .int .i64 1]) (by simp [results, Tryd.results42, go_sem, g0, g1]) rfl ⟨.inr ⟨HE.out, rfl⟩, ?_⟩
              exact below_setCell (below_setCell HRR.out.2 (p := ⟨w.heap.size, 0, none⟩) (Nat.le_refl _) _) (p := ⟨w.heap.size, 1, none⟩) (Nat.le_refl _) _
end Go.Proofs.YtmepahlmbopacaaDoor.Ct
