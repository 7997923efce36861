/- What Home and Shards of the document's ring return. Conditions: the nodes rise, and read as a list; the tables lie as start-up lays them. -/
import Derived.Test.YtmepahlmbopacaaDoorChRNew
import Derived.Deep.RegionHeld3
set_option linter.unusedVariables false
set_option linter.unusedSimpArgs false
set_option maxRecDepth 100000
namespace Go.Proofs.YtmepahlmbopacaaDoor.Ct
open Go Go.RowKit Go.Maps
theorem zof_step {K : List Int} {i k P : Nat} : zof (K.take i) P ++ spots (K.getD i 0) (k + 1) = (zof (K.take i) P ++ spots (K.getD i 0) k) ++ [(K.getD i 0, sp (K.getD i 0) k)] := by
  rw [spots_succ, List.append_assoc]
theorem zof_le {K : List Int} {i k P : Nat} (hu : K.Pairwise (· ≤ ·)) (hi : i < K.length) : ∀ x ∈ zof (K.take i) P ++ spots (K.getD i 0) k, x.1 ≤ K.getD i 0 := fun x hx => by
  rcases List.mem_append.1 hx with hx | hx
  · have h1 := (mem_zof.1 hx).1
    obtain ⟨j, hj, e⟩ := List.getElem_of_mem h1
    rw [List.length_take] at hj
    rw [List.getElem_take] at e
    have := sorted_get hu (a := j) (b := i) (by omega) hi
    rw [List.getD_eq_getElem?_getD, List.getElem?_eq_getElem (by omega)] at this
    rw [← e]
    exact this
  · unfold spots at hx
    obtain ⟨_, _, rfl⟩ := List.mem_map.1 hx
    exact Int.le_refl _
theorem zof_take_succ {K : List Int} {i P : Nat} (hi : i < K.length) : zof (K.take (i + 1)) P = zof (K.take i) P ++ spots (K.getD i 0) P := by
  rw [take_ext hi, zof_snoc]
def RHPost (K : List Int) (P : Nat) (s : Int) (w : World) (en : Ending) (w' : World) : Prop :=
  (K = [] ∧ en = .returned (.tuple #[.int .i64 0, .int .i64 3]) ∨ K ≠ [] ∧ ∃ m, en = .returned (.tuple #[.int .i64 m, .int .i64 0]) ∧ IsHome (zof K P) s m) ∧ Below w.heap.size w w'
set_option maxHeartbeats 8000000 in
theorem rHome_any {w : World} {B : Nat} {A : Option Addr} {n c : Nat} {K : List Int} (hR : Reads w B 1 A n (ints K)) (hB : B ≤ w.heap.size) (hu : K.Pairwise (· ≤ ·)) (hK8 : ∀ x ∈ K, 0 ≤ x ∧ x < 8) (hn : n ≤ 8) (P : Nat) (hP1 : 1 ≤ P) (hP : P ≤ 64) (s : Int) (hs : InR s) (hT : Four w) :
    Calls Tryd.prog 57 #[.agg #[.slice A n c, .int .i64 (P : Int)], .int .i64 s] w (RHPost K P s w) := by
  have hln := hR.len
  obtain ⟨W, hW⟩ : ∃ W, W = w.alloc (.cells #[.slice A n c, .int .i64 (P : Int)] 76) := ⟨_, rfl⟩
  have hB0 : Below w.heap.size w W := by rw [hW]; exact (Below.refl _ w).alloc (Nat.le_refl _) _
  have r0 : Row W w.heap.size 76 [.slice A n c, .int .i64 (P : Int)] := by rw [hW]; exact Row.new w 76 [.slice A n c, .int .i64 (P : Int)]
  have hRW := (hR.more hB).below hB0
  have hTW := hT.on hB0
  have KR := Lib.hid (fun w1 (hb : Below W.heap.size W w1) => show w1.cell? ⟨w.heap.size, 0, none⟩ = some (.slice A n c) ∧ w1.cell? ⟨w.heap.size, 1, none⟩ = some (.int .i64 (P : Int)) ∧ w.heap.size < w1.heap.size ∧ Reads w1 w.heap.size 1 A n (ints K) ∧ Four w1 ∧ Below w.heap.size w w1 from
    ⟨(r0.keep (hb.block _ r0.lt)).cell (j := 0) rfl, (r0.keep (hb.block _ r0.lt)).cell (j := 1) rfl, (r0.keep (hb.block _ r0.lt)).lt, hRW.below (hb.mono hB0.size), hTW.on hb, hB0.trans (hb.mono hB0.size)⟩)
  have HW := Lib.hid hW
  have HL := Lib.hid hln
  have HU := Lib.hid (And.intro hu hK8)
  have HB0 := Lib.hid hB0
  have s0 : ¬ s < 0 := by unfold InR at hs; omega
  have s1 : ¬ (16777216 : Int) ≤ s := by unfold InR at hs; omega
  have HS := Lib.hid hs
  clear hR hB hB0 r0 hRW hTW hT hW hu hK8 hs
  by_cases hn0 : n = 0
  · subst hn0
    have HK0 := Lib.hid (show K = [] from List.eq_nil_of_length_eq_zero hln.symm)
    clear hln
    go_enter Tryd.func57, Tryd.ntmps57
    go_wp2_with fail
    go_ret2
    refine ⟨.inl ⟨HK0.out, rfl⟩, ?_⟩
    first | exact HB0.out | (rw [← HW.out]; exact HB0.out)
  · have hnz : ((n : Int) == 0) = false := by rw [beq_eq_false_iff_ne]; omega
    clear hln
    go_enter Tryd.func57, Tryd.ntmps57
    go_wp2_with fail
    rw [← HW.out]
    go_loopw [6, 7, 8] (fun v6 v7 v8 wr => ∃ (b a : Int) (i : Nat), v6 = .int .i64 b ∧ v7 = .int .i64 a ∧ v8 = .int .i64 (i : Int) ∧ i ≤ n ∧ Bst (zof (K.take i) P) s b a ∧ Below W.heap.size W wr) (fun _ _ v8 _ => n - (intOf v8).toNat)
    case atStart => exact ⟨-1, 0, 0, rfl, rfl, rfl, by omega, .inl ⟨rfl, rfl⟩, Below.refl _ _⟩
    case round =>
      obtain ⟨b, a, i, rfl, rfl, rfl, hi, hbst, hb⟩ := hrel
      obtain ⟨k0, k1, kl, hRr, hTr, hbw⟩ := KR.out wr hb
      by_cases hlt : i < n
      · have hltz : (i : Int) < (n : Int) := by omega
        have hiK : i < K.length := by rw [← HL.out]; exact hlt
        have HZS := Lib.hid (fun k => @zof_step K i k P)
        have HZL := Lib.hid (fun k => @zof_le K i k P HU.out.1 hiK)
        have HZT := Lib.hid (@zof_take_succ K i P hiK)
        have hx8 := HU.out.2 _ (mem_getD hiK)
        have HKX := Lib.hid (fun w1 (hb : Below W.heap.size W w1) => (KR.out w1 hb).2.2.2.1.int_at hlt)
        have HB1 := Lib.hid (And.intro hb hbst)
        clear hb hbst hRr hTr hbw
        generalize K.getD i 0 = x at *
        generalize zof (K.take i) P = Z at *
        clear hiK
        go_wp2_with fail
        clear k0 k1 kl
        go_loopw [6, 7, 9] (fun v6 v7 v9 wr => ∃ (b a : Int) (k : Nat), v6 = .int .i64 b ∧ v7 = .int .i64 a ∧ v9 = .int .i64 (k : Int) ∧ k ≤ P ∧ Bst (Z ++ spots x k) s b a ∧ Below W.heap.size W wr) (fun _ _ v9 _ => P - (intOf v9).toNat)
        case atStart => exact ⟨_, _, 0, rfl, rfl, rfl, by omega, by simpa [spots] using HB1.out.2, HB1.out.1⟩
        case round =>
          obtain ⟨b, a, k, rfl, rfl, rfl, hk, hbst, hb⟩ := hrel
          obtain ⟨k0, k1, kl, _, hTr, _⟩ := KR.out wr hb
          by_cases hkp : k < P
          · have hkz : (k : Int) < (P : Int) := by omega
            obtain ⟨ad, rfl, hab, hc⟩ := HKX.out wr hb
            have hadl : (ad.add i).block < wr.heap.size := by rw [block_of_add]; omega
            have HSP : Hid (Calls Tryd.prog 58 #[.string nodeB, .int .i64 x, .int .i64 (k : Int)] wr (Gives (.int .i64 (sp x k)) wr)) := Lib.hid (rspot_any nodeB x (k : Int) wr ⟨by omega, by omega⟩ ⟨by omega, by omega⟩ (by decide) hTr.tab hTr.tabs)
            have HF := Lib.hid (far_calc HS.out (sp_in x k))
            have hq := sp_in x k
            have hs := HS.out
            have hzs := HZS.out k
            have HL1 := Lib.hid (fun h => hbst.less (n := x) (q := sp x k) h)
            have HM1 := Lib.hid (fun h0 h1 => hbst.more (n := x) (q := sp x k) h0 h1 (HZL.out k))
            rw [← hzs] at HL1 HM1
            generalize sp x k = q at *
            have HB2 := Lib.hid hb
            clear hbst hb hTr hzs
            unfold InR at hq hs
            go_wp2_with fail
            refine HSP.out.mono ?_
            rintro en w2 ⟨rfl, hb2⟩
            have hb3 := HB2.out.trans (hb2.mono HB2.out.size)
            clear k0 k1 kl hc hadl hab
            obtain ⟨k0, k1, kl, _, _, _⟩ := KR.out w2 hb3
            obtain ⟨ad', had, hab, hc⟩ := HKX.out w2 hb3
            injection had with had
            subst had
            have hadl : (ad.add i).block < w2.heap.size := by rw [block_of_add]; omega
            have HB3 := Lib.hid hb3
            clear hb2 hb3 HSP hab
            by_cases h1 : q - s < 0
            · rw [if_pos h1] at HF
              by_cases hb0 : b < 0
              · have HN := Lib.hid (HL1.out (.inl hb0))
                rw [HF.out] at HN
                clear HL1 HM1
                go_wp2_with fail
                exact ⟨⟨_, _, k + 1, rfl, rfl, by go_num, hkp, HN.out, HB3.out⟩, by simp [intOf]; omega⟩
              · by_cases hfb : q - s + 16777216 < b
                · have HN := Lib.hid (HL1.out (.inr (by rw [HF.out]; exact hfb)))
                  rw [HF.out] at HN
                  clear HL1 HM1
                  go_wp2_with fail
                  exact ⟨⟨_, _, k + 1, rfl, rfl, by go_num, hkp, HN.out, HB3.out⟩, by simp [intOf]; omega⟩
                · have HN := Lib.hid (HM1.out (by omega) (by rw [HF.out]; omega))
                  clear HL1 HM1
                  go_wp2_with fail
                  exact ⟨⟨_, _, k + 1, rfl, rfl, by go_num, hkp, HN.out, HB3.out⟩, by simp [intOf]; omega⟩
            · rw [if_neg h1] at HF
              by_cases hb0 : b < 0
              · have HN := Lib.hid (HL1.out (.inl hb0))
                rw [HF.out] at HN
                clear HL1 HM1
                go_wp2_with fail
                exact ⟨⟨_, _, k + 1, rfl, rfl, by go_num, hkp, HN.out, HB3.out⟩, by simp [intOf]; omega⟩
              · by_cases hfb : q - s < b
                · have HN := Lib.hid (HL1.out (.inr (by rw [HF.out]; exact hfb)))
                  rw [HF.out] at HN
                  clear HL1 HM1
                  go_wp2_with fail
                  exact ⟨⟨_, _, k + 1, rfl, rfl, by go_num, hkp, HN.out, HB3.out⟩, by simp [intOf]; omega⟩
                · have HN := Lib.hid (HM1.out (by omega) (by rw [HF.out]; omega))
                  clear HL1 HM1
                  go_wp2_with fail
                  exact ⟨⟨_, _, k + 1, rfl, rfl, by go_num, hkp, HN.out, HB3.out⟩, by simp [intOf]; omega⟩
          · obtain rfl : k = P := by omega
            have hnl : ¬ (k : Int) < (k : Int) := by omega
            have HB2 := Lib.hid (And.intro hbst hb)
            clear hbst hb hTr
            go_wp2_with fail
            exact ⟨⟨_, _, i + 1, rfl, rfl, by go_num, hlt, by rw [HZT.out]; exact HB2.out.1, HB2.out.2⟩, by simp [intOf]; omega⟩
      · obtain rfl : i = n := by omega
        have hnl : ¬ (i : Int) < (i : Int) := by omega
        rw [List.take_of_length_le (by rw [HL.out]; exact Nat.le_refl _)] at hbst
        have HK0 := Lib.hid (show K ≠ [] from fun h => by have := HL.out; rw [h] at this; simp at this; omega)
        have HH := Lib.hid (hbst.home zof_in (fun h => HK0.out ((zof_nil hP1).1 h)))
        have HBW := Lib.hid hbw
        clear hbst hb hRr hTr hbw
        go_wp2_with fail
        go_ret2
        exact ⟨.inr ⟨HK0.out, a, rfl, HH.out⟩, HBW.out⟩
theorem rh_cases {K : List Int} {P : Nat} {s : Int} {en : Ending} (h : K = [] ∧ en = .returned (.tuple #[.int .i64 0, .int .i64 3]) ∨ K ≠ [] ∧ ∃ m, en = .returned (.tuple #[.int .i64 m, .int .i64 0]) ∧ IsHome (zof K P) s m) :
    ∃ mm er : Int, en = .returned (.tuple #[.int .i64 mm, .int .i64 er]) ∧ (K = [] ∧ mm = 0 ∧ er = 3 ∨ K ≠ [] ∧ er = 0 ∧ IsHome (zof K P) s mm) := by
  rcases h with ⟨h1, h2⟩ | ⟨h1, m, h2, h3⟩
  · exact ⟨0, 3, h2, .inl ⟨h1, rfl, rfl⟩⟩
  · exact ⟨m, 0, h2, .inr ⟨h1, rfl, h3⟩⟩
def RSPost (K : List Int) (P : Nat) (n : Int) (w : World) (en : Ending) (w' : World) : Prop :=
  ((mayS n = false ∧ en = .returned (.tuple #[.slice none 0 0, .int .i64 1]) ∨ mayS n = true ∧ K = [] ∧ en = .returned (.tuple #[.slice none 0 0, .int .i64 3])) ∨
   mayS n = true ∧ K ≠ [] ∧ ∃ A1 n1 c1 H, en = .returned (.tuple #[.slice A1 n1 c1, .int .i64 0]) ∧ (n1 : Int) = n ∧ Homes (zof K P) n H ∧ w'.ownsRow w.heap.size 3 1 (.slice A1 n1 c1) n1 (ints H)) ∧ Below w.heap.size w w'
set_option maxHeartbeats 8000000 in
theorem rShards_any {w : World} {B : Nat} {A : Option Addr} {m c : Nat} {K : List Int} (hR : Reads w B 1 A m (ints K)) (hB : B ≤ w.heap.size) (hu : K.Pairwise (· ≤ ·)) (hK8 : ∀ x ∈ K, 0 ≤ x ∧ x < 8) (hm : m ≤ 8) (P : Nat) (hP1 : 1 ≤ P) (hP : P ≤ 64) (n : Int) (hT : Four w) :
    Calls Tryd.prog 43 #[.agg #[.slice A m c, .int .i64 (P : Int)], .int .i64 n] w (RSPost K P n w) := by
  obtain ⟨W, hW⟩ : ∃ W, W = w.alloc (.cells #[.slice A m c, .int .i64 (P : Int)] 76) := ⟨_, rfl⟩
  have hB0 : Below w.heap.size w W := by rw [hW]; exact (Below.refl _ w).alloc (Nat.le_refl _) _
  have r0 : Row W w.heap.size 76 [.slice A m c, .int .i64 (P : Int)] := by rw [hW]; exact Row.new w 76 [.slice A m c, .int .i64 (P : Int)]
  have hRW := (hR.more hB).below hB0
  have hTW := hT.on hB0
  have KR := Lib.hid (fun w1 (hb : Below W.heap.size W w1) => show w1.cell? ⟨w.heap.size, 0, none⟩ = some (.slice A m c) ∧ w1.cell? ⟨w.heap.size, 1, none⟩ = some (.int .i64 (P : Int)) ∧ w.heap.size < w1.heap.size ∧ Reads w1 w.heap.size 1 A m (ints K) ∧ Four w1 ∧ Below w.heap.size w w1 from
    ⟨(r0.keep (hb.block _ r0.lt)).cell (j := 0) rfl, (r0.keep (hb.block _ r0.lt)).cell (j := 1) rfl, (r0.keep (hb.block _ r0.lt)).lt, hRW.below (hb.mono hB0.size), hTW.on hb, hB0.trans (hb.mono hB0.size)⟩)
  have HW := Lib.hid hW
  have HU := Lib.hid (And.intro hu hK8)
  have HB0 := Lib.hid hB0
  clear hR hB hB0 r0 hRW hTW hT hW hu hK8
  by_cases n1 : n < 1
  · have HE := Lib.hid (show mayS n = false by unfold mayS; simp; omega)
    go_enter Tryd.func43, Tryd.ntmps43
    go_wp2_with fail
    go_ret2
    refine ⟨.inl (.inl ⟨HE.out, rfl⟩), ?_⟩
    first | exact HB0.out | (rw [← HW.out]; exact HB0.out)
  · by_cases n2 : 16 < n
    · have HE := Lib.hid (show mayS n = false by unfold mayS; simp; omega)
      go_enter Tryd.func43, Tryd.ntmps43
      go_wp2_with fail
      go_ret2
      refine ⟨.inl (.inl ⟨HE.out, rfl⟩), ?_⟩
      first | exact HB0.out | (rw [← HW.out]; exact HB0.out)
    · have HE := Lib.hid (show mayS n = true by unfold mayS; simp; omega)
      obtain ⟨nn, rfl⟩ : ∃ nn : Nat, n = (nn : Int) := ⟨n.toNat, by omega⟩
      have hnn1 : 1 ≤ nn := by omega
      have hnn16 : nn ≤ 16 := by omega
      go_enter Tryd.func43, Tryd.ntmps43
      go_wp2_with fail
      rw [← HW.out]
      go_loopw [6, 7] (fun v i wr => ∃ (va : Value) (k : Nat) (H : List Int), va = v ∧ i = .int .i64 (k : Int) ∧ k ≤ nn ∧ Hid (H.length = k) ∧ (H = [] ∨ K ≠ []) ∧ Homes (zof K P) (nn : Int) H ∧ wr.ownsRow W.heap.size 3 1 va H.length (ints H) ∧ Below W.heap.size W wr) (fun _ i _ => nn - (intOf i).toNat)
      case atStart => exact ⟨_, 0, [], rfl, rfl, by omega, Lib.hid rfl, .inl rfl, fun k hk => by simp at hk, World.ownsRow_nil .., Below.refl _ _⟩
      case round =>
        obtain ⟨va, k, H, rfl, rfl, hk, HK, hne, hH, hown, hb⟩ := hrel
        obtain ⟨k0, k1, kl, hRr, hTr, hbw⟩ := KR.out wr hb
        by_cases hlt : k < nn
        · have hltz : (k : Int) < (nn : Int) := by omega
          have hd0 : Below wr.heap.size wr wr.drew := below_drewN (Below.refl _ wr) 1
          have HSP : Hid (∀ W', Below wr.heap.size wr W' → Calls Tryd.prog 58 #[.string ⟨#[115, 104, 97, 114, 100]⟩, .int .i64 (k : Int), .int .i64 (nn : Int)] W' (Gives (.int .i64 (shS k (nn : Int))) W')) := Lib.hid (fun W' hb' => rspot_any shB (k : Int) (nn : Int) W' ⟨by omega, by omega⟩ ⟨by omega, by omega⟩ (by decide) (hTr.on hb').tab (hTr.on hb').tabs)
          have HHM := Lib.hid (fun W' (hb' : Below wr.heap.size wr W') => rHome_any (c := c) (hRr.below (hb'.mono (show w.heap.size ≤ wr.heap.size from hbw.size))) (Nat.le_trans hbw.size hb'.size) HU.out.1 HU.out.2 hm P hP1 hP (shS k (nn : Int)) (shS_in k _) (hTr.on hb'))
          have KS := Lib.hid (fun W' (hb' : Below wr.heap.size wr W') => show W'.cell? ⟨w.heap.size, 0, none⟩ = some (.slice A m c) ∧ W'.cell? ⟨w.heap.size, 1, none⟩ = some (.int .i64 (P : Int)) from ⟨(hb'.cell (p := ⟨w.heap.size, 0, none⟩) kl).trans k0, (hb'.cell (p := ⟨w.heap.size, 1, none⟩) kl).trans k1⟩)
          have HS0 := Lib.hid (KS.out _ hd0)
          have HD0 := Lib.hid hd0
          have HL1 := Lib.hid (And.intro hown (And.intro hb (And.intro hH hne)))
          have hws := hb.size
          clear hown hb hH hne hRr hTr hbw hd0
          go_upto_region 7 with fail
          go_cut [8, 9] from 21 to 28 (fun s8 s9 wc => ∃ (mm er : Int), s8 = .int .i64 mm ∧ s9 = .int .i64 er ∧ Hid ((K = [] ∧ mm = 0 ∧ er = 3 ∨ K ≠ [] ∧ er = 0 ∧ IsHome (zof K P) (shS k (nn : Int)) mm) ∧ Below wr.heap.size wr wc))
          case first =>
            go_region_held3 (fun w' => w'.cell? ⟨w.heap.size, 0, none⟩ = some (.slice A m c) ∧ w'.cell? ⟨w.heap.size, 1, none⟩ = some (.int .i64 (P : Int)))
              (first | exact HS6.out | exact HS5.out | exact HS0.out)
              (first
                | (go_at_call 58; with_reducible refine (HSP.out _ HD0.out).mono ?_; intro en w5 hpost; unfold Gives at hpost; obtain ⟨rfl, hb5⟩ := hpost; have HB5 := Lib.hid (below_d hb5); have HS5 := Lib.hid (KS.out _ HB5.out); clear hb5)
                | (go_at_call 57; with_reducible refine (HHM.out _ HB5.out).mono ?_; intro en w6 hpost; unfold RHPost at hpost; obtain ⟨hor, hb6⟩ := hpost; have HB6 := Lib.hid (below_then HB5.out hb6); have HS6 := Lib.hid (KS.out _ HB6.out); obtain ⟨mm, er, rfl, hor2⟩ := rh_cases hor; have HOR := Lib.hid hor2; clear hb6 hor hor2))
            all_goals
              go_wp2_with fail
              go_meet
              exact ⟨mm, er, rfl, rfl, Lib.hid ⟨HOR.out, HB6.out⟩⟩
          case rest =>
            obtain ⟨mm, er, rfl, rfl, HC⟩ := hcut
            rcases HC.out.1 with ⟨hK, rfl, rfl⟩ | ⟨hK, rfl, hh⟩
            · have HX := Lib.hid (And.intro hK (HB0.out.trans ((HL1.out.2.1.trans (HC.out.2.mono hws)).mono HB0.out.size)))
              clear hK k0 k1 kl HS0
              go_wp2_with fail
              go_ret2
              exact ⟨.inl (.inr ⟨HE.out, HX.out.1, rfl⟩), HX.out.2⟩
            · have hownc := keep_none HL1.out.1 HC.out.2
              have hcs : W.heap.size ≤ wc.heap.size := Nat.le_trans hws HC.out.2.size
              have hHn := HL1.out.2.2.1.snoc (m := mm) (by rw [HK.out]; exact hh)
              have HX := Lib.hid (And.intro hHn (And.intro hK (show (H ++ [mm]).length = k + 1 by rw [List.length_append, HK.out]; rfl)))
              have HO := Lib.hid (And.intro hownc (HL1.out.2.1.trans (HC.out.2.mono hws)))
              have hHl : H.length ≤ 1000000 := by rw [HK.out]; omega
              clear hK hh hownc hHn k0 k1 kl HS0
              go_wp2_with (at_builtin; refine append_int rfl (.tmp 32) (.tmp 34) rfl W.heap.size va H.length (ints H) mm rfl HO.out.1 wc.heap.size rfl rfl hHl hcs ?_; intro v' w7 hown7 hgr7)
              refine ⟨⟨_, k + 1, H ++ [mm], rfl, by go_num, hlt, Lib.hid HX.out.2.2, .inr HX.out.2.1, HX.out.1, ?_, own_grown HO.out.2 HO.out.1 hgr7 hcs⟩, by simp [intOf]; omega⟩
              rw [List.length_append, ← ints_snoc]
              exact hown7
        · obtain rfl : k = nn := by omega
          have hnl : ¬ (k : Int) < (k : Int) := by omega
          have hK : K ≠ [] := by
            rcases hne with rfl | h
            · have := HK.out
              simp at this
              omega
            · exact h
          obtain ⟨A1, c1, rfl, _, _⟩ := own_shape hown
          rw [HK.out] at hown
          have HX := Lib.hid (And.intro hK (And.intro hH (And.intro (own_base hown HB0.out.size) hbw)))
          have HKL := HK
          clear hown hb hH hne hRr hTr hbw hK
          go_wp2_with fail
          go_ret2
          refine ⟨.inr ⟨HE.out, HX.out.1, A1, H.length, c1, H, rfl, by rw [HKL.out], HX.out.2.1, ?_⟩, HX.out.2.2.2⟩
          rw [HKL.out]
          exact HX.out.2.2.1
end Go.Proofs.YtmepahlmbopacaaDoor.Ct
