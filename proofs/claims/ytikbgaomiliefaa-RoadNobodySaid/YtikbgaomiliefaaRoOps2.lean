/- Twice and Swap of the document's road. Conditions: its lists lie apart from blocks that turn. -/
import Derived.Test.YtikbgaomiliefaaRoOps
set_option linter.unusedVariables false
set_option linter.unusedSimpArgs false
set_option maxRecDepth 100000
namespace Go.Proofs.Ytikbgaomiliefaa.Ro
open Go Go.RowKit
theorem news_lt (W : World) (L : List Lt) (hL : 0 < L.length) {V : World} (hb : Below (W.heap.size + 1) (W.alloc (.cells (lts L).toArray 34)) V) : Reads V V.heap.size 3 (some ⟨W.heap.size, 0, none⟩) L.length (lts L) := by
  refine ⟨by rw [lts_len], fun _ => ⟨_, rfl, ?_, fun j u hj => ?_⟩⟩
  · have := hb.size
    rw [World.size_alloc] at this
    show W.heap.size < V.heap.size
    omega
  · have h := news_cells W (lts L).toArray 34 j u (by simpa using hj)
    exact (hb.cell (by rw [block_of_add]; show W.heap.size < W.heap.size + 1; omega)).trans h
section
variable {w : World} {F : Nat → Prop} {Q : Rd} {A : Option Addr} {n c : Nat}
set_option maxHeartbeats 4000000 in
theorem twice_any (Q : Rd) (to a : Int) (h : RAt w F Q A n c) (hF : ∀ b, F b → b < w.heap.size) (hQ : Q.length ≤ 100) (hl : ∀ i, (Q.getD i []).length ≤ 1024) :
    Calls Try.prog 19 #[.agg #[.slice A n c], .int .i64 to, .int .i64 a] w (REPost F (twiceQ Q to a).1 (twiceQ Q to a).2 w) := by
  unfold twiceQ
  obtain ⟨W, hW⟩ : ∃ W, W = (w.alloc (.cells #[.slice A n c] 29)).alloc (.cells #[.slice none 0 0] 29) := ⟨_, rfl⟩
  have hfr : Fr w W (w.heap.size + 1) A n c := by rw [hW]; exact fr_start w A n c
  have hlen := h.len
  have HT := there_any Q to W A n c hlen (by omega)
  have HFR := Lib.hid (fun w1 (hb : Below W.heap.size W w1) => hfr.on hb)
  have HH := Lib.hid h
  have HFF := Lib.hid hF
  have HW := Lib.hid hW
  obtain ⟨v0, _, _, vl, _⟩ := hfr.cells
  cases ht : thereQ Q to with
  | false =>
    rw [ht] at HT
    have HT := Lib.hid HT
    clear hW hfr h ht hlen hl hQ
    rw [if_pos rfl]
    go_enter Try.func19, Try.ntmps19
    go_wp2_with fail
    rw [← HW.out]
    with_reducible refine HT.out.mono ?_
    rintro e w1 ⟨rfl, hb1⟩
    have hf1 := HFR.out w1 hb1
    obtain ⟨x0, x1, xf, xl, xl1⟩ := hf1.cells
    have HR := Lib.hid (hf1.ret (Below.refl _ _) (hf1.rat HH.out))
    clear hf1 hb1
    go_wp2
    obtain ⟨hr, hbf, g0⟩ := HR.out
    refine bodyPost_ret (v := .tuple #[.agg #[.slice A n c], .int .i64 1]) (by simp [results, Try.results19, go_sem, g0]) rfl ?_
    exact ⟨A, n, c, rfl, hr, hbf⟩
  | true =>
    rw [if_neg (by simp)]
    rw [ht] at HT
    have HT := Lib.hid HT
    obtain ⟨ad, s, rfl, hc, hbk, hs, hsl⟩ := h.at_ ht
    obtain ⟨hk, hkz⟩ := spot_lt ht
    have hll := hl (spot to)
    obtain ⟨sa, sn, sd⟩ := s
    simp only at hsl
    obtain ⟨L, hL⟩ : ∃ L, haveQ Q to = L := ⟨_, rfl⟩
    have hll : L.length ≤ 1024 := by rw [← hL]; exact hll
    obtain ⟨k, hke⟩ : ∃ k, spot to = k := ⟨_, rfl⟩
    rw [hL] at hs hsl ⊢
    rw [hke] at hc hbk hkz hk
    have HC := Lib.hid (fun w1 (hb : Below w.heap.size w w1) => show w1.cell? (ad.add k) = some (.slice sa sn sd) ∧ (ad.add k).block < w1.heap.size from ⟨(hb.cell hbk).trans hc, Nat.lt_of_lt_of_le hbk hb.size⟩)
    have HS := Lib.hid (fun w1 (hb : Below w.heap.size w w1) => (hs.mono (F' := F2 F (w.heap.size + 1)) (fun b hb hl => hb.elim id (fun e => by omega))).turn (Turn.below _ hb))
    have hw1 : IntKind.i64.wrap (to + 1) = (k : Int) := by rw [IntKind.wrap_i64]; omega
    have hkn : (k : Int) < (n : Int) := by omega
    have HWS := Lib.hid (fun (L' : List Lt) => (with_set (l := L') ht).trans (by rw [hke]))
    have HKE := Lib.hid (And.intro hke ht)
    have hsm : sn ≤ sd ∧ sd ≤ maxLen := ⟨hs.le, hs.max⟩
    have HSL := Lib.hid hsl
    have hsn : sn ≤ 1024 := by omega
    clear hW hfr h ht hs hc hbk hk hkz hke hl hlen hL hll hsl
    by_cases hna : a < 0 ∨ (L.length : Int) ≤ a
    · have hcs : a < 0 ∨ (¬ a < 0 ∧ (sn : Int) ≤ a) := by have := HSL.out; omega
      rw [if_pos hna]
      clear hna
      rcases hcs with h0 | ⟨h0, h1⟩
      all_goals
        go_enter Try.func19, Try.ntmps19
        go_wp2_with fail
        rw [← HW.out]
        with_reducible refine HT.out.mono ?_
        rintro e w1 ⟨rfl, hb1⟩
        have hf1 := HFR.out w1 hb1
        obtain ⟨x0, x1, xf, xl, xl1⟩ := hf1.cells
        obtain ⟨hc, hbk⟩ := HC.out w1 hf1.below
        have HR := Lib.hid (hf1.ret (Below.refl _ _) (hf1.rat HH.out))
        clear hf1 hb1
        go_wp2
        obtain ⟨hr, hbf, g0⟩ := HR.out
        refine bodyPost_ret (v := .tuple #[.agg #[.slice (some ad) n c], .int .i64 3]) (by simp [results, Try.results19, go_sem, g0]) rfl ?_
        exact ⟨(some ad), n, c, rfl, hr, hbf⟩
    · rw [if_neg hna]
      obtain ⟨j, rfl⟩ : ∃ j : Nat, a = (j : Int) := ⟨a.toNat, by omega⟩
      have hj : j < sn := by have := HSL.out; omega
      have h0 : ¬ (j : Int) < 0 := by omega
      have h1 : ¬ (sn : Int) ≤ (j : Int) := by omega
      rw [show ((j : Int)).toNat = j from rfl]
      by_cases hfull : 1024 ≤ L.length
      · rw [if_pos hfull]
        have h2 : (1024 : Int) ≤ (sn : Int) := by have := HSL.out; omega
        clear hna hfull
        go_enter Try.func19, Try.ntmps19
        go_wp2_with fail
        rw [← HW.out]
        with_reducible refine HT.out.mono ?_
        rintro e w1 ⟨rfl, hb1⟩
        have hf1 := HFR.out w1 hb1
        obtain ⟨x0, x1, xf, xl, xl1⟩ := hf1.cells
        obtain ⟨hc, hbk⟩ := HC.out w1 hf1.below
        have HR := Lib.hid (hf1.ret (Below.refl _ _) (hf1.rat HH.out))
        clear hf1 hb1
        go_wp2
        obtain ⟨hr, hbf, g0⟩ := HR.out
        refine bodyPost_ret (v := .tuple #[.agg #[.slice (some ad) n c], .int .i64 2]) (by simp [results, Try.results19, go_sem, g0]) rfl ?_
        exact ⟨(some ad), n, c, rfl, hr, hbf⟩
      · rw [if_neg hfull]
        have h2 : ¬ (1024 : Int) ≤ (sn : Int) := by have := HSL.out; omega
        clear hfull
        have hsn0 : j < L.length := by have := HSL.out; omega
        obtain ⟨x, hx⟩ : ∃ x, L.getD (j) noL = x := ⟨_, rfl⟩
        rw [hx]
        obtain ⟨L', hL'⟩ : ∃ L', cutT L j 0 [x] = L' := ⟨_, rfl⟩
        rw [hL', HWS.out]
        obtain ⟨ads, hads⟩ : ∃ ads, sa = some ads := by
          obtain ⟨ads, e, _⟩ := (HS.out w (Below.refl _ _)).reads.2 (show 0 < sn by omega)
          exact ⟨ads, e⟩
        subst hads
        have HEx := Lib.hid (fun w1 (hb : Below w.heap.size w w1) => show w1.cell? (ads.add ((j) * 3)) = some (.int .i64 x.1) ∧ w1.cell? ⟨(ads.add ((j) * 3)).block, (ads.add ((j) * 3)).off + 1, none⟩ = some (.int .i64 x.2.1) ∧ w1.cell? ⟨(ads.add ((j) * 3)).block, (ads.add ((j) * 3)).off + 2, none⟩ = some (.string x.2.2) ∧ (ads.add ((j) * 3)).block < w1.heap.size from by
          obtain ⟨ad', e, hb', c1, c2, c3⟩ := Ro.Reads.letter (HS.out w1 hb).reads (show j < sn by have := HSL.out; omega)
          injection e with e
          subst e
          rw [hx] at c1 c2 c3
          exact ⟨c1, c2, c3, by first | exact hb' | (rw [block_of_add]; exact hb')⟩)
        have HD1 := Lib.hid (fun w1 (N : Nat) (hb : Below w.heap.size w w1) (hx : Reads w1 w1.heap.size 3 (some ⟨N, 0, none⟩) 1 (lts [x])) => show Calls Try.prog 31 #[.slice (some ads) sn sd, .int .i64 (j : Int), .int .i64 0, .slice (some ⟨N, 0, none⟩) 1 1] w1 (CutPost w1 L') from by
          rw [← hL']
          exact cut_any L [x] j 0 (A := some ads) (A2 := some ⟨N, 0, none⟩) (n := sn) (c := sd) (n2 := 1) (c2 := 1) (HS.out w1 hb).reads hx (Nat.le_refl _) (by omega) (by omega) (by omega) hsm.1 hsm.2)
        clear hna hL' hx hsn0
        go_enter Try.func19, Try.ntmps19
        go_wp2_with fail
        rw [← HW.out]
        with_reducible refine HT.out.mono ?_
        rintro e w1 ⟨rfl, hb1⟩
        have hf1 := HFR.out w1 hb1
        obtain ⟨x0, x1, xf, xl, xl1⟩ := hf1.cells
        obtain ⟨hc, hbk⟩ := HC.out w1 hf1.below
        obtain ⟨x0, x1, x2, xl⟩ := HEx.out w1 hf1.below
        have hba : Below w1.heap.size w1 (w1.alloc (.cells #[.int .i64 x.1, .int .i64 x.2.1, .string x.2.2] 34)).drew := ((Below.refl _ w1).alloc (Nat.le_refl _) _).drew
        have hnw := news_lt w1 [x] (by simp) (V := (w1.alloc (.cells #[.int .i64 x.1, .int .i64 x.2.1, .string x.2.2] 34)).drew) (Below.refl _ _).drew
        have HDD := Lib.hid (HD1.out (w1.alloc (.cells #[.int .i64 x.1, .int .i64 x.2.1, .string x.2.2] 34)).drew w1.heap.size (hf1.below.trans (hba.mono hf1.below.size)) hnw)
        have HF1 := Lib.hid hf1
        have HKS := Lib.hid (fun w' (hb : Below w1.heap.size w1 w') => show w'.cell? ⟨w.heap.size, 0, none⟩ = some (.slice (some ad) n c) ∧ w'.cell? (ads.add ((j) * 3)) = some (.int .i64 x.1) ∧ w'.cell? ⟨(ads.add ((j) * 3)).block, (ads.add ((j) * 3)).off + 1, none⟩ = some (.int .i64 x.2.1) ∧ w'.cell? ⟨(ads.add ((j) * 3)).block, (ads.add ((j) * 3)).off + 2, none⟩ = some (.string x.2.2) from by
          have hb2 := HF1.out.below.trans (hb.mono HF1.out.below.size)
          obtain ⟨kx0, kx1, kx2, _⟩ := HEx.out w' hb2
          exact ⟨(HF1.out.on hb).cells.1, kx0, kx1, kx2⟩)
        have HKT := Lib.hid (fun (w' : World) (h : w'.cell? ⟨w.heap.size, 0, none⟩ = some (.slice (some ad) n c) ∧ w'.cell? (ads.add ((j) * 3)) = some (.int .i64 x.1) ∧ w'.cell? ⟨(ads.add ((j) * 3)).block, (ads.add ((j) * 3)).off + 1, none⟩ = some (.int .i64 x.2.1) ∧ w'.cell? ⟨(ads.add ((j) * 3)).block, (ads.add ((j) * 3)).off + 2, none⟩ = some (.string x.2.2)) (v : Value) => show (w'.setCell ⟨w.heap.size + 1, 0, none⟩ v).cell? ⟨w.heap.size, 0, none⟩ = some (.slice (some ad) n c) ∧ (w'.setCell ⟨w.heap.size + 1, 0, none⟩ v).cell? (ads.add ((j) * 3)) = some (.int .i64 x.1) ∧ (w'.setCell ⟨w.heap.size + 1, 0, none⟩ v).cell? ⟨(ads.add ((j) * 3)).block, (ads.add ((j) * 3)).off + 1, none⟩ = some (.int .i64 x.2.1) ∧ (w'.setCell ⟨w.heap.size + 1, 0, none⟩ v).cell? ⟨(ads.add ((j) * 3)).block, (ads.add ((j) * 3)).off + 2, none⟩ = some (.string x.2.2) from by
          have hlt := fun (p : Addr) (hp : p.block ≤ w.heap.size) => World.cell?_setCell_other w' ⟨w.heap.size + 1, 0, none⟩ p v (fun e => by rw [← e] at hp; simp only at hp; omega)
          have lx := (HEx.out w (Below.refl _ _)).2.2.2
          exact ⟨(hlt _ (Nat.le_refl _)).trans h.1, (hlt (ads.add ((j) * 3)) (Nat.le_of_lt lx)).trans h.2.1, (hlt ⟨(ads.add ((j) * 3)).block, (ads.add ((j) * 3)).off + 1, none⟩ (Nat.le_of_lt lx)).trans h.2.2.1, (hlt ⟨(ads.add ((j) * 3)).block, (ads.add ((j) * 3)).off + 2, none⟩ (Nat.le_of_lt lx)).trans h.2.2.2⟩)
        have HWC := Lib.hid (fun w2 A3 c3 (ho : w2.ownsRow (w1.alloc (.cells #[.int .i64 x.1, .int .i64 x.2.1, .string x.2.2] 34)).drew.heap.size 34 3 (.slice A3 L'.length c3) L'.length (lts L')) (hb : Below (w1.alloc (.cells #[.int .i64 x.1, .int .i64 x.2.1, .string x.2.2] 34)).drew.heap.size (w1.alloc (.cells #[.int .i64 x.1, .int .i64 x.2.1, .string x.2.2] 34)).drew w2) => show Below w1.heap.size w1 w2 ∧ Fr w w2 (w.heap.size + 1) (some ad) n c ∧ Calls Try.prog 30 #[.agg #[.slice (some ad) n c], .int .i64 to, .slice A3 L'.length c3] w2 (RPost (F2 F (w.heap.size + 1)) (Q.set k L') w2) from by
          have hb2 : Below w1.heap.size w1 w2 := hba.trans (hb.mono hba.size)
          have hf2 := HF1.out.on hb2
          have := with_any Q to L' (A3, L'.length, c3) (hf2.rat HH.out) (hf2.foot HFF.out) HKE.out.2 (slat_own ho (fun b hb => Nat.lt_of_lt_of_le (HF1.out.foot HFF.out b hb) hba.size)) hQ
          rw [HKE.out.1] at this
          exact ⟨hb2, hf2, this⟩)
        clear hf1 hb1 hnw
        have HBA := Lib.hid hba
        clear hba
        go_wp2_with fail
        go_region_held3 (fun w' => w'.cell? ⟨w.heap.size, 0, none⟩ = some (.slice (some ad) n c) ∧ w'.cell? (ads.add ((j) * 3)) = some (.int .i64 x.1) ∧ w'.cell? ⟨(ads.add ((j) * 3)).block, (ads.add ((j) * 3)).off + 1, none⟩ = some (.int .i64 x.2.1) ∧ w'.cell? ⟨(ads.add ((j) * 3)).block, (ads.add ((j) * 3)).off + 2, none⟩ = some (.string x.2.2))
          (first | exact ⟨x0, x0, x1, x2⟩ | exact ⟨d0, kx0, kx1, kx2⟩ | exact ⟨f0, kx0, kx1, kx2⟩ | exact HST _ | go_keep)
          (first
            | (go_at_call 31
               with_reducible refine HDD.out.mono ?_
               rintro e w2 ⟨A3, c3, rfl, ho, hb, _, _⟩
               obtain ⟨hb2, hf2, hw2⟩ := HWC.out w2 A3 c3 ho hb
               have HW2 := Lib.hid (And.intro hf2 (And.intro hw2 hb2))
               obtain ⟨d0, kx0, kx1, kx2⟩ := HKS.out w2 hb2
               clear ho hb hf2 hw2 hb2)
            | (go_at_call 30
               with_reducible refine HW2.out.2.1.mono ?_
               rintro e w3 ⟨A4, n4, c4, rfl, hr3, hb3⟩
               have HR := Lib.hid (HW2.out.1.ret hb3 hr3)
               obtain ⟨_, kx0, kx1, kx2⟩ := HKS.out w3 (HW2.out.2.2.trans (hb3.mono HW2.out.2.2.size))
               obtain ⟨f0, q1, qf, ql, ql1⟩ := (HW2.out.1.on hb3).cells
               have HST := HKT.out w3 ⟨f0, kx0, kx1, kx2⟩
               clear hr3 hb3))
        all_goals go_wp2
        all_goals
          obtain ⟨hr, hbf, g0⟩ := HR.out
          refine bodyPost_ret (v := .tuple #[.agg #[.slice A4 n4 c4], .int .i64 0]) (by simp [results, Try.results19, go_sem, g0]) rfl ?_
          exact ⟨A4, n4, c4, rfl, hr, hbf⟩
set_option maxHeartbeats 4000000 in
theorem swap_any (Q : Rd) (to a : Int) (h : RAt w F Q A n c) (hF : ∀ b, F b → b < w.heap.size) (hQ : Q.length ≤ 100) (hl : ∀ i, (Q.getD i []).length ≤ 1024) :
    Calls Try.prog 21 #[.agg #[.slice A n c], .int .i64 to, .int .i64 a] w (REPost F (swapQ Q to a).1 (swapQ Q to a).2 w) := by
  unfold swapQ
  obtain ⟨W, hW⟩ : ∃ W, W = (w.alloc (.cells #[.slice A n c] 29)).alloc (.cells #[.slice none 0 0] 29) := ⟨_, rfl⟩
  have hfr : Fr w W (w.heap.size + 1) A n c := by rw [hW]; exact fr_start w A n c
  have hlen := h.len
  have HT := there_any Q to W A n c hlen (by omega)
  have HFR := Lib.hid (fun w1 (hb : Below W.heap.size W w1) => hfr.on hb)
  have HH := Lib.hid h
  have HFF := Lib.hid hF
  have HW := Lib.hid hW
  obtain ⟨v0, _, _, vl, _⟩ := hfr.cells
  cases ht : thereQ Q to with
  | false =>
    rw [ht] at HT
    have HT := Lib.hid HT
    clear hW hfr h ht hlen hl hQ
    rw [if_pos rfl]
    go_enter Try.func21, Try.ntmps21
    go_wp2_with fail
    rw [← HW.out]
    with_reducible refine HT.out.mono ?_
    rintro e w1 ⟨rfl, hb1⟩
    have hf1 := HFR.out w1 hb1
    obtain ⟨x0, x1, xf, xl, xl1⟩ := hf1.cells
    have HR := Lib.hid (hf1.ret (Below.refl _ _) (hf1.rat HH.out))
    clear hf1 hb1
    go_wp2
    obtain ⟨hr, hbf, g0⟩ := HR.out
    refine bodyPost_ret (v := .tuple #[.agg #[.slice A n c], .int .i64 1]) (by simp [results, Try.results21, go_sem, g0]) rfl ?_
    exact ⟨A, n, c, rfl, hr, hbf⟩
  | true =>
    rw [if_neg (by simp)]
    rw [ht] at HT
    have HT := Lib.hid HT
    obtain ⟨ad, s, rfl, hc, hbk, hs, hsl⟩ := h.at_ ht
    obtain ⟨hk, hkz⟩ := spot_lt ht
    have hll := hl (spot to)
    obtain ⟨sa, sn, sd⟩ := s
    simp only at hsl
    obtain ⟨L, hL⟩ : ∃ L, haveQ Q to = L := ⟨_, rfl⟩
    have hll : L.length ≤ 1024 := by rw [← hL]; exact hll
    obtain ⟨k, hke⟩ : ∃ k, spot to = k := ⟨_, rfl⟩
    rw [hL] at hs hsl ⊢
    rw [hke] at hc hbk hkz hk
    have HC := Lib.hid (fun w1 (hb : Below w.heap.size w w1) => show w1.cell? (ad.add k) = some (.slice sa sn sd) ∧ (ad.add k).block < w1.heap.size from ⟨(hb.cell hbk).trans hc, Nat.lt_of_lt_of_le hbk hb.size⟩)
    have HS := Lib.hid (fun w1 (hb : Below w.heap.size w w1) => (hs.mono (F' := F2 F (w.heap.size + 1)) (fun b hb hl => hb.elim id (fun e => by omega))).turn (Turn.below _ hb))
    have hw1 : IntKind.i64.wrap (to + 1) = (k : Int) := by rw [IntKind.wrap_i64]; omega
    have hkn : (k : Int) < (n : Int) := by omega
    have HWS := Lib.hid (fun (L' : List Lt) => (with_set (l := L') ht).trans (by rw [hke]))
    have HKE := Lib.hid (And.intro hke ht)
    have hsm : sn ≤ sd ∧ sd ≤ maxLen := ⟨hs.le, hs.max⟩
    have HSL := Lib.hid hsl
    have hsn : sn ≤ 1024 := by omega
    clear hW hfr h ht hs hc hbk hk hkz hke hl hlen hL hll hsl
    by_cases hna : a < 0 ∨ (L.length : Int) - 1 ≤ a
    · have hcs : a < 0 ∨ (¬ a < 0 ∧ (sn : Int) - 1 ≤ a) := by have := HSL.out; omega
      have wsn : IntKind.i64.wrap ((sn : Int) - 1) = (sn : Int) - 1 := by rw [IntKind.wrap_i64]; omega
      rw [if_pos hna]
      clear hna
      rcases hcs with h0 | ⟨h0, h1⟩
      all_goals
        go_enter Try.func21, Try.ntmps21
        go_wp2_with fail
        rw [← HW.out]
        with_reducible refine HT.out.mono ?_
        rintro e w1 ⟨rfl, hb1⟩
        have hf1 := HFR.out w1 hb1
        obtain ⟨x0, x1, xf, xl, xl1⟩ := hf1.cells
        obtain ⟨hc, hbk⟩ := HC.out w1 hf1.below
        have HR := Lib.hid (hf1.ret (Below.refl _ _) (hf1.rat HH.out))
        clear hf1 hb1
        go_wp2
        obtain ⟨hr, hbf, g0⟩ := HR.out
        refine bodyPost_ret (v := .tuple #[.agg #[.slice (some ad) n c], .int .i64 3]) (by simp [results, Try.results21, go_sem, g0]) rfl ?_
        exact ⟨(some ad), n, c, rfl, hr, hbf⟩
    · rw [if_neg hna]
      obtain ⟨j, rfl⟩ : ∃ j : Nat, a = (j : Int) := ⟨a.toNat, by omega⟩
      have hj : j < sn := by have := HSL.out; omega
      have h0 : ¬ (j : Int) < 0 := by omega
      have h1 : ¬ (sn : Int) - 1 ≤ (j : Int) := by have := HSL.out; omega
      have wsn : IntKind.i64.wrap ((sn : Int) - 1) = (sn : Int) - 1 := by rw [IntKind.wrap_i64]; omega
      have wj1 : IntKind.i64.wrap ((j : Int) + 1) = (j : Int) + 1 := by rw [IntKind.wrap_i64]; omega
      have hj1 : (j : Int) + 1 < (sn : Int) := by have := HSL.out; omega
      have hj10 : (0 : Int) ≤ (j : Int) + 1 := by omega
      have hj1n : j + 1 < sn := by omega
      rw [show ((j : Int)).toNat = j from rfl]
      have hsn0 : j < L.length := by have := HSL.out; omega
      obtain ⟨y, hy⟩ : ∃ y, L.getD (j + 1) noL = y := ⟨_, rfl⟩
      rw [hy]
      obtain ⟨x, hx⟩ : ∃ x, L.getD (j) noL = x := ⟨_, rfl⟩
      rw [hx]
      obtain ⟨L', hL'⟩ : ∃ L', cutT L j 2 [y, x] = L' := ⟨_, rfl⟩
      rw [hL', HWS.out]
      obtain ⟨ads, hads⟩ : ∃ ads, sa = some ads := by
        obtain ⟨ads, e, _⟩ := (HS.out w (Below.refl _ _)).reads.2 (show 0 < sn by omega)
        exact ⟨ads, e⟩
      subst hads
      have HEy := Lib.hid (fun w1 (hb : Below w.heap.size w w1) => show w1.cell? (ads.add ((j + 1) * 3)) = some (.int .i64 y.1) ∧ w1.cell? ⟨(ads.add ((j + 1) * 3)).block, (ads.add ((j + 1) * 3)).off + 1, none⟩ = some (.int .i64 y.2.1) ∧ w1.cell? ⟨(ads.add ((j + 1) * 3)).block, (ads.add ((j + 1) * 3)).off + 2, none⟩ = some (.string y.2.2) ∧ (ads.add ((j + 1) * 3)).block < w1.heap.size from by
        obtain ⟨ad', e, hb', c1, c2, c3⟩ := Ro.Reads.letter (HS.out w1 hb).reads (show j + 1 < sn by have := HSL.out; omega)
        injection e with e
        subst e
        rw [hy] at c1 c2 c3
        exact ⟨c1, c2, c3, by first | exact hb' | (rw [block_of_add]; exact hb')⟩)
      have HEx := Lib.hid (fun w1 (hb : Below w.heap.size w w1) => show w1.cell? (ads.add ((j) * 3)) = some (.int .i64 x.1) ∧ w1.cell? ⟨(ads.add ((j) * 3)).block, (ads.add ((j) * 3)).off + 1, none⟩ = some (.int .i64 x.2.1) ∧ w1.cell? ⟨(ads.add ((j) * 3)).block, (ads.add ((j) * 3)).off + 2, none⟩ = some (.string x.2.2) ∧ (ads.add ((j) * 3)).block < w1.heap.size from by
        obtain ⟨ad', e, hb', c1, c2, c3⟩ := Ro.Reads.letter (HS.out w1 hb).reads (show j < sn by have := HSL.out; omega)
        injection e with e
        subst e
        rw [hx] at c1 c2 c3
        exact ⟨c1, c2, c3, by first | exact hb' | (rw [block_of_add]; exact hb')⟩)
      have HD1 := Lib.hid (fun w1 (N : Nat) (hb : Below w.heap.size w w1) (hx : Reads w1 w1.heap.size 3 (some ⟨N, 0, none⟩) 2 (lts [y, x])) => show Calls Try.prog 31 #[.slice (some ads) sn sd, .int .i64 (j : Int), .int .i64 2, .slice (some ⟨N, 0, none⟩) 2 2] w1 (CutPost w1 L') from by
        rw [← hL']
        exact cut_any L [y, x] j 2 (A := some ads) (A2 := some ⟨N, 0, none⟩) (n := sn) (c := sd) (n2 := 2) (c2 := 2) (HS.out w1 hb).reads hx (Nat.le_refl _) (by omega) (by omega) (by omega) hsm.1 hsm.2)
      clear hna hL' hy hx hsn0
      go_enter Try.func21, Try.ntmps21
      go_wp2_with fail
      rw [← HW.out]
      with_reducible refine HT.out.mono ?_
      rintro e w1 ⟨rfl, hb1⟩
      have hf1 := HFR.out w1 hb1
      obtain ⟨x0, x1, xf, xl, xl1⟩ := hf1.cells
      obtain ⟨hc, hbk⟩ := HC.out w1 hf1.below
      obtain ⟨y0, y1, y2, yl⟩ := HEy.out w1 hf1.below
      obtain ⟨x0, x1, x2, xl⟩ := HEx.out w1 hf1.below
      have hba : Below w1.heap.size w1 (w1.alloc (.cells #[.int .i64 y.1, .int .i64 y.2.1, .string y.2.2, .int .i64 x.1, .int .i64 x.2.1, .string x.2.2] 34)).drew := ((Below.refl _ w1).alloc (Nat.le_refl _) _).drew
      have hnw := news_lt w1 [y, x] (by simp) (V := (w1.alloc (.cells #[.int .i64 y.1, .int .i64 y.2.1, .string y.2.2, .int .i64 x.1, .int .i64 x.2.1, .string x.2.2] 34)).drew) (Below.refl _ _).drew
      have HDD := Lib.hid (HD1.out (w1.alloc (.cells #[.int .i64 y.1, .int .i64 y.2.1, .string y.2.2, .int .i64 x.1, .int .i64 x.2.1, .string x.2.2] 34)).drew w1.heap.size (hf1.below.trans (hba.mono hf1.below.size)) hnw)
      have HF1 := Lib.hid hf1
      have HKS := Lib.hid (fun w' (hb : Below w1.heap.size w1 w') => show w'.cell? ⟨w.heap.size, 0, none⟩ = some (.slice (some ad) n c) ∧ w'.cell? (ads.add ((j + 1) * 3)) = some (.int .i64 y.1) ∧ w'.cell? ⟨(ads.add ((j + 1) * 3)).block, (ads.add ((j + 1) * 3)).off + 1, none⟩ = some (.int .i64 y.2.1) ∧ w'.cell? ⟨(ads.add ((j + 1) * 3)).block, (ads.add ((j + 1) * 3)).off + 2, none⟩ = some (.string y.2.2) ∧ w'.cell? (ads.add ((j) * 3)) = some (.int .i64 x.1) ∧ w'.cell? ⟨(ads.add ((j) * 3)).block, (ads.add ((j) * 3)).off + 1, none⟩ = some (.int .i64 x.2.1) ∧ w'.cell? ⟨(ads.add ((j) * 3)).block, (ads.add ((j) * 3)).off + 2, none⟩ = some (.string x.2.2) from by
        have hb2 := HF1.out.below.trans (hb.mono HF1.out.below.size)
        obtain ⟨ky0, ky1, ky2, _⟩ := HEy.out w' hb2
        obtain ⟨kx0, kx1, kx2, _⟩ := HEx.out w' hb2
        exact ⟨(HF1.out.on hb).cells.1, ky0, ky1, ky2, kx0, kx1, kx2⟩)
      have HKT := Lib.hid (fun (w' : World) (h : w'.cell? ⟨w.heap.size, 0, none⟩ = some (.slice (some ad) n c) ∧ w'.cell? (ads.add ((j + 1) * 3)) = some (.int .i64 y.1) ∧ w'.cell? ⟨(ads.add ((j + 1) * 3)).block, (ads.add ((j + 1) * 3)).off + 1, none⟩ = some (.int .i64 y.2.1) ∧ w'.cell? ⟨(ads.add ((j + 1) * 3)).block, (ads.add ((j + 1) * 3)).off + 2, none⟩ = some (.string y.2.2) ∧ w'.cell? (ads.add ((j) * 3)) = some (.int .i64 x.1) ∧ w'.cell? ⟨(ads.add ((j) * 3)).block, (ads.add ((j) * 3)).off + 1, none⟩ = some (.int .i64 x.2.1) ∧ w'.cell? ⟨(ads.add ((j) * 3)).block, (ads.add ((j) * 3)).off + 2, none⟩ = some (.string x.2.2)) (v : Value) => show (w'.setCell ⟨w.heap.size + 1, 0, none⟩ v).cell? ⟨w.heap.size, 0, none⟩ = some (.slice (some ad) n c) ∧ (w'.setCell ⟨w.heap.size + 1, 0, none⟩ v).cell? (ads.add ((j + 1) * 3)) = some (.int .i64 y.1) ∧ (w'.setCell ⟨w.heap.size + 1, 0, none⟩ v).cell? ⟨(ads.add ((j + 1) * 3)).block, (ads.add ((j + 1) * 3)).off + 1, none⟩ = some (.int .i64 y.2.1) ∧ (w'.setCell ⟨w.heap.size + 1, 0, none⟩ v).cell? ⟨(ads.add ((j + 1) * 3)).block, (ads.add ((j + 1) * 3)).off + 2, none⟩ = some (.string y.2.2) ∧ (w'.setCell ⟨w.heap.size + 1, 0, none⟩ v).cell? (ads.add ((j) * 3)) = some (.int .i64 x.1) ∧ (w'.setCell ⟨w.heap.size + 1, 0, none⟩ v).cell? ⟨(ads.add ((j) * 3)).block, (ads.add ((j) * 3)).off + 1, none⟩ = some (.int .i64 x.2.1) ∧ (w'.setCell ⟨w.heap.size + 1, 0, none⟩ v).cell? ⟨(ads.add ((j) * 3)).block, (ads.add ((j) * 3)).off + 2, none⟩ = some (.string x.2.2) from by
        have hlt := fun (p : Addr) (hp : p.block ≤ w.heap.size) => World.cell?_setCell_other w' ⟨w.heap.size + 1, 0, none⟩ p v (fun e => by rw [← e] at hp; simp only at hp; omega)
        have ly := (HEy.out w (Below.refl _ _)).2.2.2
        have lx := (HEx.out w (Below.refl _ _)).2.2.2
        exact ⟨(hlt _ (Nat.le_refl _)).trans h.1, (hlt (ads.add ((j + 1) * 3)) (Nat.le_of_lt ly)).trans h.2.1, (hlt ⟨(ads.add ((j + 1) * 3)).block, (ads.add ((j + 1) * 3)).off + 1, none⟩ (Nat.le_of_lt ly)).trans h.2.2.1, (hlt ⟨(ads.add ((j + 1) * 3)).block, (ads.add ((j + 1) * 3)).off + 2, none⟩ (Nat.le_of_lt ly)).trans h.2.2.2.1, (hlt (ads.add ((j) * 3)) (Nat.le_of_lt lx)).trans h.2.2.2.2.1, (hlt ⟨(ads.add ((j) * 3)).block, (ads.add ((j) * 3)).off + 1, none⟩ (Nat.le_of_lt lx)).trans h.2.2.2.2.2.1, (hlt ⟨(ads.add ((j) * 3)).block, (ads.add ((j) * 3)).off + 2, none⟩ (Nat.le_of_lt lx)).trans h.2.2.2.2.2.2⟩)
      have HWC := Lib.hid (fun w2 A3 c3 (ho : w2.ownsRow (w1.alloc (.cells #[.int .i64 y.1, .int .i64 y.2.1, .string y.2.2, .int .i64 x.1, .int .i64 x.2.1, .string x.2.2] 34)).drew.heap.size 34 3 (.slice A3 L'.length c3) L'.length (lts L')) (hb : Below (w1.alloc (.cells #[.int .i64 y.1, .int .i64 y.2.1, .string y.2.2, .int .i64 x.1, .int .i64 x.2.1, .string x.2.2] 34)).drew.heap.size (w1.alloc (.cells #[.int .i64 y.1, .int .i64 y.2.1, .string y.2.2, .int .i64 x.1, .int .i64 x.2.1, .string x.2.2] 34)).drew w2) => show Below w1.heap.size w1 w2 ∧ Fr w w2 (w.heap.size + 1) (some ad) n c ∧ Calls Try.prog 30 #[.agg #[.slice (some ad) n c], .int .i64 to, .slice A3 L'.length c3] w2 (RPost (F2 F (w.heap.size + 1)) (Q.set k L') w2) from by
        have hb2 : Below w1.heap.size w1 w2 := hba.trans (hb.mono hba.size)
        have hf2 := HF1.out.on hb2
        have := with_any Q to L' (A3, L'.length, c3) (hf2.rat HH.out) (hf2.foot HFF.out) HKE.out.2 (slat_own ho (fun b hb => Nat.lt_of_lt_of_le (HF1.out.foot HFF.out b hb) hba.size)) hQ
        rw [HKE.out.1] at this
        exact ⟨hb2, hf2, this⟩)
      clear hf1 hb1 hnw
      have HBA := Lib.hid hba
      clear hba
      go_wp2_with fail
      go_region_held3 (fun w' => w'.cell? ⟨w.heap.size, 0, none⟩ = some (.slice (some ad) n c) ∧ w'.cell? (ads.add ((j + 1) * 3)) = some (.int .i64 y.1) ∧ w'.cell? ⟨(ads.add ((j + 1) * 3)).block, (ads.add ((j + 1) * 3)).off + 1, none⟩ = some (.int .i64 y.2.1) ∧ w'.cell? ⟨(ads.add ((j + 1) * 3)).block, (ads.add ((j + 1) * 3)).off + 2, none⟩ = some (.string y.2.2) ∧ w'.cell? (ads.add ((j) * 3)) = some (.int .i64 x.1) ∧ w'.cell? ⟨(ads.add ((j) * 3)).block, (ads.add ((j) * 3)).off + 1, none⟩ = some (.int .i64 x.2.1) ∧ w'.cell? ⟨(ads.add ((j) * 3)).block, (ads.add ((j) * 3)).off + 2, none⟩ = some (.string x.2.2))
        (first | exact ⟨x0, y0, y1, y2, x0, x1, x2⟩ | exact ⟨d0, ky0, ky1, ky2, kx0, kx1, kx2⟩ | exact ⟨f0, ky0, ky1, ky2, kx0, kx1, kx2⟩ | exact HST _ | go_keep)
        (first
          | (go_at_call 31
             with_reducible refine HDD.out.mono ?_
             rintro e w2 ⟨A3, c3, rfl, ho, hb, _, _⟩
             obtain ⟨hb2, hf2, hw2⟩ := HWC.out w2 A3 c3 ho hb
             have HW2 := Lib.hid (And.intro hf2 (And.intro hw2 hb2))
             obtain ⟨d0, ky0, ky1, ky2, kx0, kx1, kx2⟩ := HKS.out w2 hb2
             clear ho hb hf2 hw2 hb2)
          | (go_at_call 30
             with_reducible refine HW2.out.2.1.mono ?_
             rintro e w3 ⟨A4, n4, c4, rfl, hr3, hb3⟩
             have HR := Lib.hid (HW2.out.1.ret hb3 hr3)
             obtain ⟨_, ky0, ky1, ky2, kx0, kx1, kx2⟩ := HKS.out w3 (HW2.out.2.2.trans (hb3.mono HW2.out.2.2.size))
             obtain ⟨f0, q1, qf, ql, ql1⟩ := (HW2.out.1.on hb3).cells
             have HST := HKT.out w3 ⟨f0, ky0, ky1, ky2, kx0, kx1, kx2⟩
             clear hr3 hb3))
      all_goals go_wp2
      all_goals
        obtain ⟨hr, hbf, g0⟩ := HR.out
        refine bodyPost_ret (v := .tuple #[.agg #[.slice A4 n4 c4], .int .i64 0]) (by simp [results, Try.results21, go_sem, g0]) rfl ?_
        exact ⟨A4, n4, c4, rfl, hr, hbf⟩
end
end Go.Proofs.Ytikbgaomiliefaa.Ro
