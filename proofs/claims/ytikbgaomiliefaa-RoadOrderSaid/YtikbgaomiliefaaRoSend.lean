/- Send of the document's road. Conditions: its lists lie apart from blocks that turn. -/
import Derived.Test.YtikbgaomiliefaaRoOps2
set_option linter.unusedVariables false
set_option linter.unusedSimpArgs false
set_option maxRecDepth 100000
namespace Go.Proofs.Ytikbgaomiliefaa.Ro
open Go Go.RowKit
theorem fr_start3 (w : World) (A : Option Addr) (n c : Nat) (l : Lt) : Fr w (((w.alloc (.cells #[.slice A n c] 29)).alloc (.cells #[.int .i64 l.1, .int .i64 l.2.1, .string l.2.2] 34)).alloc (.cells #[.slice none 0 0] 29)) (w.heap.size + 1 + 1) A n c ∧
    Row (((w.alloc (.cells #[.slice A n c] 29)).alloc (.cells #[.int .i64 l.1, .int .i64 l.2.1, .string l.2.2] 34)).alloc (.cells #[.slice none 0 0] 29)) (w.heap.size + 1) 34 (lc l) := by
  refine ⟨⟨?_, ?_, (((Below.refl _ w).alloc (Nat.le_refl _) _).alloc (by simp) _).alloc (by simp; omega) _, by omega⟩, ?_⟩
  · exact ((Row.new w 29 [.slice A n c]).keep (heap_alloc_lt _ _ (by simp))).keep (heap_alloc_lt _ _ (by simp; omega))
  · have h := Row.new ((w.alloc (.cells #[.slice A n c] 29)).alloc (.cells #[.int .i64 l.1, .int .i64 l.2.1, .string l.2.2] 34)) 29 [.slice none 0 0]
    rw [World.size_alloc, World.size_alloc] at h
    exact h
  · have h := Row.new (w.alloc (.cells #[.slice A n c] 29)) 34 (lc l)
    rw [World.size_alloc] at h
    exact h.keep (heap_alloc_lt _ _ (by simp))
theorem cut_end (L : List Lt) (l : Lt) : cutT L L.length 0 [l] = L ++ [l] := by
  unfold cutT
  rw [List.take_length, Nat.add_zero, List.drop_length, List.append_nil]
section
variable {w : World} {F : Nat → Prop} {Q : Rd} {A : Option Addr} {n c : Nat}
set_option maxHeartbeats 4000000 in
theorem send_any (Q : Rd) (l : Lt) (h : RAt w F Q A n c) (hF : ∀ b, F b → b < w.heap.size) (hQ : Q.length ≤ 100) (hl : ∀ i, (Q.getD i []).length ≤ 1024) :
    Calls Try.prog 13 #[.agg #[.slice A n c], .agg #[.int .i64 l.1, .int .i64 l.2.1, .string l.2.2]] w (REPost F (sendQ Q l).1 (sendQ Q l).2 w) := by
  unfold sendQ
  obtain ⟨fr, to, tx⟩ := l
  simp only
  obtain ⟨W, hW⟩ : ∃ W, W = ((w.alloc (.cells #[.slice A n c] 29)).alloc (.cells #[.int .i64 fr, .int .i64 to, .string tx] 34)).alloc (.cells #[.slice none 0 0] 29) := ⟨_, rfl⟩
  obtain ⟨hfr, hrl⟩ : Fr w W (w.heap.size + 1 + 1) A n c ∧ Row W (w.heap.size + 1) 34 (lc (fr, to, tx)) := by rw [hW]; exact fr_start3 w A n c (fr, to, tx)
  have hlen := h.len
  have HT1 := there_any Q fr W A n c hlen (by omega)
  have HT2 := Lib.hid (fun w1 => there_any Q to w1 A n c hlen (by omega))
  have HFR := Lib.hid (fun w1 (hb : Below W.heap.size W w1) => And.intro (hfr.on hb) (hrl.keep (hb.block _ hrl.lt)))
  have HH := Lib.hid h
  have HFF := Lib.hid hF
  have HW := Lib.hid hW
  obtain ⟨v0, _, _, vl, _⟩ := hfr.cells
  have u0 := hrl.cell (j := 0) (u := .int .i64 fr) rfl
  have u1 := hrl.cell (j := 1) (u := .int .i64 to) rfl
  have u2 := hrl.cell (j := 2) (u := .string tx) rfl
  have ul := hrl.lt
  cases ht1 : thereQ Q fr with
  | false =>
    rw [ht1] at HT1
    rw [if_pos (.inl rfl)]
    have HT1 := Lib.hid HT1
    clear hW hfr hrl h hlen hl hQ ht1
    go_enter Try.func13, Try.ntmps13
    go_wp2_with fail
    rw [← HW.out]
    with_reducible refine HT1.out.mono ?_
    rintro e w1 ⟨rfl, hb1⟩
    obtain ⟨hf1, hr1⟩ := HFR.out w1 hb1
    obtain ⟨x0, x1, xf, xl, xl1⟩ := hf1.cells
    have l0 := hr1.cell (j := 0) (u := .int .i64 fr) rfl
    have l1 := hr1.cell (j := 1) (u := .int .i64 to) rfl
    have l2 := hr1.cell (j := 2) (u := .string tx) rfl
    have ll := hr1.lt
    have HR := Lib.hid (hf1.ret (Below.refl _ _) (hf1.rat HH.out))
    clear hf1
    go_wp2
    obtain ⟨hr, hbf, g0⟩ := HR.out
    refine bodyPost_ret (v := .tuple #[.agg #[.slice A n c], .int .i64 1]) (by simp [results, Try.results13, go_sem, g0]) rfl ?_
    exact ⟨A, n, c, rfl, hr, hbf⟩
  | true =>
    rw [ht1] at HT1
    have HT1 := Lib.hid HT1
    cases ht2 : thereQ Q to with
    | false =>
      rw [if_pos (.inr (.inl rfl))]
      rw [ht2] at HT2
      clear hW hfr hrl h hlen hl hQ ht1 ht2
      go_enter Try.func13, Try.ntmps13
      go_wp2_with fail
      rw [← HW.out]
      with_reducible refine HT1.out.mono ?_
      rintro e w1 ⟨rfl, hb1⟩
      obtain ⟨hf1, hr1⟩ := HFR.out w1 hb1
      obtain ⟨x0, x1, xf, xl, xl1⟩ := hf1.cells
      have l0 := hr1.cell (j := 0) (u := .int .i64 fr) rfl
      have l1 := hr1.cell (j := 1) (u := .int .i64 to) rfl
      have l2 := hr1.cell (j := 2) (u := .string tx) rfl
      have ll := hr1.lt
      have HB1 := Lib.hid hb1
      clear hf1 hr1 hb1 v0 vl u0 u1 u2 ul
      go_wp2_with fail
      with_reducible refine (HT2.out w1).mono ?_
      rintro e w2 ⟨rfl, hb2⟩
      have hbb := HB1.out.trans (hb2.mono HB1.out.size)
      obtain ⟨hf2, hr2⟩ := HFR.out w2 hbb
      clear x0 x1 xf xl xl1 l0 l1 l2 ll
      obtain ⟨x0, x1, xf, xl, xl1⟩ := hf2.cells
      have l0 := hr2.cell (j := 0) (u := .int .i64 fr) rfl
      have l1 := hr2.cell (j := 1) (u := .int .i64 to) rfl
      have l2 := hr2.cell (j := 2) (u := .string tx) rfl
      have ll := hr2.lt
      clear hb2
      have HR := Lib.hid (hf2.ret (Below.refl _ _) (hf2.rat HH.out))
      clear hf2
      go_wp2
      obtain ⟨hr, hbf, g0⟩ := HR.out
      refine bodyPost_ret (v := .tuple #[.agg #[.slice A n c], .int .i64 1]) (by simp [results, Try.results13, go_sem, g0]) rfl ?_
      exact ⟨A, n, c, rfl, hr, hbf⟩
    | true =>
      rw [ht2] at HT2
      by_cases hbig : 1048576 < tx.size
      · rw [if_pos (.inr (.inr hbig))]
        have hbz : (1048576 : Int) < (tx.size : Int) := by omega
        clear hW hfr hrl h hlen hl hQ ht1 ht2 hbig
        go_enter Try.func13, Try.ntmps13
        go_wp2_with fail
        rw [← HW.out]
        with_reducible refine HT1.out.mono ?_
        rintro e w1 ⟨rfl, hb1⟩
        obtain ⟨hf1, hr1⟩ := HFR.out w1 hb1
        obtain ⟨x0, x1, xf, xl, xl1⟩ := hf1.cells
        have l0 := hr1.cell (j := 0) (u := .int .i64 fr) rfl
        have l1 := hr1.cell (j := 1) (u := .int .i64 to) rfl
        have l2 := hr1.cell (j := 2) (u := .string tx) rfl
        have ll := hr1.lt
        have HB1 := Lib.hid hb1
        clear hf1 hr1 hb1 v0 vl u0 u1 u2 ul
        go_wp2_with fail
        with_reducible refine (HT2.out w1).mono ?_
        rintro e w2 ⟨rfl, hb2⟩
        have hbb := HB1.out.trans (hb2.mono HB1.out.size)
        obtain ⟨hf2, hr2⟩ := HFR.out w2 hbb
        clear x0 x1 xf xl xl1 l0 l1 l2 ll
        obtain ⟨x0, x1, xf, xl, xl1⟩ := hf2.cells
        have l0 := hr2.cell (j := 0) (u := .int .i64 fr) rfl
        have l1 := hr2.cell (j := 1) (u := .int .i64 to) rfl
        have l2 := hr2.cell (j := 2) (u := .string tx) rfl
        have ll := hr2.lt
        clear hb2
        have HR := Lib.hid (hf2.ret (Below.refl _ _) (hf2.rat HH.out))
        clear hf2
        go_wp2
        obtain ⟨hr, hbf, g0⟩ := HR.out
        refine bodyPost_ret (v := .tuple #[.agg #[.slice A n c], .int .i64 1]) (by simp [results, Try.results13, go_sem, g0]) rfl ?_
        exact ⟨A, n, c, rfl, hr, hbf⟩
      · rw [if_neg (by simp [hbig])]
        have hbz : ¬ (1048576 : Int) < (tx.size : Int) := by omega
        obtain ⟨ad, s, rfl, hc, hbk, hs, hsl⟩ := h.at_ ht2
        obtain ⟨hk, hkz⟩ := spot_lt ht2
        have hll := hl (spot to)
        obtain ⟨sa, sn, sd⟩ := s
        simp only at hsl
        obtain ⟨L, hL⟩ : ∃ L, haveQ Q to = L := ⟨_, rfl⟩
        have hll : L.length ≤ 1024 := by rw [← hL]; exact hll
        obtain ⟨k, hke⟩ : ∃ k, spot to = k := ⟨_, rfl⟩
        rw [hL] at hs hsl ⊢
        rw [hke] at hc hbk hkz hk
        have HC := Lib.hid (fun w1 (hb : Below w.heap.size w w1) => show w1.cell? (ad.add k) = some (.slice sa sn sd) ∧ (ad.add k).block < w1.heap.size from ⟨(hb.cell hbk).trans hc, Nat.lt_of_lt_of_le hbk hb.size⟩)
        have HS := Lib.hid (fun w1 (hb : Below w.heap.size w w1) => (hs.mono (F' := F2 F (w.heap.size + 1 + 1)) (fun b hb hl => hb.elim id (fun e => by omega))).turn (Turn.below _ hb))
        have hw1 : IntKind.i64.wrap (to + 1) = (k : Int) := by rw [IntKind.wrap_i64]; omega
        have hkn : (k : Int) < (n : Int) := by omega
        have HWS := Lib.hid (fun (L' : List Lt) => (with_set (l := L') ht2).trans (by rw [hke]))
        have HKE := Lib.hid (And.intro hke ht2)
        have hsm : sn ≤ sd ∧ sd ≤ maxLen := ⟨hs.le, hs.max⟩
        have HSL := Lib.hid hsl
        have hsn : sn ≤ 1024 := by omega
        by_cases hfull : 1024 ≤ L.length
        · rw [if_pos hfull]
          have h2 : (1024 : Int) ≤ (sn : Int) := by have := HSL.out; omega
          clear hW hfr hrl h hlen hl hQ ht1 ht2 hbig hs hc hbk hk hkz hke hL hll hsl hfull
          go_enter Try.func13, Try.ntmps13
          go_wp2_with fail
          rw [← HW.out]
          with_reducible refine HT1.out.mono ?_
          rintro e w1 ⟨rfl, hb1⟩
          obtain ⟨hf1, hr1⟩ := HFR.out w1 hb1
          obtain ⟨x0, x1, xf, xl, xl1⟩ := hf1.cells
          have l0 := hr1.cell (j := 0) (u := .int .i64 fr) rfl
          have l1 := hr1.cell (j := 1) (u := .int .i64 to) rfl
          have l2 := hr1.cell (j := 2) (u := .string tx) rfl
          have ll := hr1.lt
          have HB1 := Lib.hid hb1
          clear hf1 hr1 hb1 v0 vl u0 u1 u2 ul
          go_wp2_with fail
          with_reducible refine (HT2.out w1).mono ?_
          rintro e w2 ⟨rfl, hb2⟩
          have hbb := HB1.out.trans (hb2.mono HB1.out.size)
          obtain ⟨hf2, hr2⟩ := HFR.out w2 hbb
          clear x0 x1 xf xl xl1 l0 l1 l2 ll
          obtain ⟨x0, x1, xf, xl, xl1⟩ := hf2.cells
          have l0 := hr2.cell (j := 0) (u := .int .i64 fr) rfl
          have l1 := hr2.cell (j := 1) (u := .int .i64 to) rfl
          have l2 := hr2.cell (j := 2) (u := .string tx) rfl
          have ll := hr2.lt
          clear hb2
          obtain ⟨hc, hbk⟩ := HC.out w2 hf2.below
          have HR := Lib.hid (hf2.ret (Below.refl _ _) (hf2.rat HH.out))
          clear hf2
          go_wp2
          obtain ⟨hr, hbf, g0⟩ := HR.out
          refine bodyPost_ret (v := .tuple #[.agg #[.slice (some ad) n c], .int .i64 2]) (by simp [results, Try.results13, go_sem, g0]) rfl ?_
          exact ⟨(some ad), n, c, rfl, hr, hbf⟩
        · rw [if_neg hfull, HWS.out]
          have h2 : ¬ (1024 : Int) ≤ (sn : Int) := by have := HSL.out; omega
          have hQ' := hQ
          obtain ⟨L', hL'⟩ : ∃ L', L ++ [(fr, to, tx)] = L' := ⟨_, rfl⟩
          rw [hL']
          have HD1 := Lib.hid (fun w1 (N : Nat) (hb : Below w.heap.size w w1) (hx : Reads w1 w1.heap.size 3 (some ⟨N, 0, none⟩) 1 (lts [(fr, to, tx)])) => show Calls Try.prog 31 #[.slice sa sn sd, .int .i64 (sn : Int), .int .i64 0, .slice (some ⟨N, 0, none⟩) 1 1] w1 (CutPost w1 L') from by
            have h := cut_any L [(fr, to, tx)] sn 0 (A := sa) (A2 := some ⟨N, 0, none⟩) (n := sn) (c := sd) (n2 := 1) (c2 := 1) (HS.out w1 hb).reads hx (Nat.le_refl _) (by omega) (by omega) (by omega) hsm.1 hsm.2
            rw [show cutT L sn 0 [(fr, to, tx)] = L' by rw [HSL.out, cut_end]; exact hL'] at h
            exact h)
          clear hW hfr hrl h hlen hl ht1 ht2 hbig hs hc hbk hk hkz hke hL hll hsl hfull hL'
          go_enter Try.func13, Try.ntmps13
          go_wp2_with fail
          rw [← HW.out]
          with_reducible refine HT1.out.mono ?_
          rintro e w1 ⟨rfl, hb1⟩
          obtain ⟨hf1, hr1⟩ := HFR.out w1 hb1
          obtain ⟨x0, x1, xf, xl, xl1⟩ := hf1.cells
          have l0 := hr1.cell (j := 0) (u := .int .i64 fr) rfl
          have l1 := hr1.cell (j := 1) (u := .int .i64 to) rfl
          have l2 := hr1.cell (j := 2) (u := .string tx) rfl
          have ll := hr1.lt
          have HB1 := Lib.hid hb1
          clear hf1 hr1 hb1 v0 vl u0 u1 u2 ul
          go_wp2_with fail
          with_reducible refine (HT2.out w1).mono ?_
          rintro e w2 ⟨rfl, hb2⟩
          have hbb := HB1.out.trans (hb2.mono HB1.out.size)
          obtain ⟨hf2, hr2⟩ := HFR.out w2 hbb
          clear x0 x1 xf xl xl1 l0 l1 l2 ll
          obtain ⟨x0, x1, xf, xl, xl1⟩ := hf2.cells
          have l0 := hr2.cell (j := 0) (u := .int .i64 fr) rfl
          have l1 := hr2.cell (j := 1) (u := .int .i64 to) rfl
          have l2 := hr2.cell (j := 2) (u := .string tx) rfl
          have ll := hr2.lt
          clear hb2
          obtain ⟨hc, hbk⟩ := HC.out w2 hf2.below
          have hba : Below w2.heap.size w2 (w2.alloc (.cells #[.int .i64 fr, .int .i64 to, .string tx] 34)).drew := ((Below.refl _ w2).alloc (Nat.le_refl _) _).drew
          have hnw := news_lt w2 [(fr, to, tx)] (by simp) (V := (w2.alloc (.cells #[.int .i64 fr, .int .i64 to, .string tx] 34)).drew) (Below.refl _ _).drew
          have HDD := Lib.hid (HD1.out (w2.alloc (.cells #[.int .i64 fr, .int .i64 to, .string tx] 34)).drew w2.heap.size (hf2.below.trans (hba.mono hf2.below.size)) hnw)
          have HF1 := Lib.hid (And.intro hf2 hr2)
          have HKS := Lib.hid (fun w' (hb : Below w2.heap.size w2 w') => show w'.cell? ⟨w.heap.size, 0, none⟩ = some (.slice (some ad) n c) ∧ w'.cell? ⟨w.heap.size + 1, 0, none⟩ = some (.int .i64 fr) ∧ w'.cell? ⟨w.heap.size + 1, 1, none⟩ = some (.int .i64 to) ∧ w'.cell? ⟨w.heap.size + 1, 2, none⟩ = some (.string tx) from by
            have r := HF1.out.2.keep (hb.block _ HF1.out.2.lt)
            exact ⟨(HF1.out.1.on hb).cells.1, r.cell rfl, r.cell rfl, r.cell rfl⟩)
          have HKT := Lib.hid (fun (w' : World) (h : w'.cell? ⟨w.heap.size, 0, none⟩ = some (.slice (some ad) n c) ∧ w'.cell? ⟨w.heap.size + 1, 0, none⟩ = some (.int .i64 fr) ∧ w'.cell? ⟨w.heap.size + 1, 1, none⟩ = some (.int .i64 to) ∧ w'.cell? ⟨w.heap.size + 1, 2, none⟩ = some (.string tx)) (v : Value) => show (w'.setCell ⟨w.heap.size + 1 + 1, 0, none⟩ v).cell? ⟨w.heap.size, 0, none⟩ = some (.slice (some ad) n c) ∧ (w'.setCell ⟨w.heap.size + 1 + 1, 0, none⟩ v).cell? ⟨w.heap.size + 1, 0, none⟩ = some (.int .i64 fr) ∧ (w'.setCell ⟨w.heap.size + 1 + 1, 0, none⟩ v).cell? ⟨w.heap.size + 1, 1, none⟩ = some (.int .i64 to) ∧ (w'.setCell ⟨w.heap.size + 1 + 1, 0, none⟩ v).cell? ⟨w.heap.size + 1, 2, none⟩ = some (.string tx) from by
            have hlt := fun (p : Addr) (hp : p.block ≤ w.heap.size + 1) => World.cell?_setCell_other w' ⟨w.heap.size + 1 + 1, 0, none⟩ p v (fun e => by rw [← e] at hp; simp only at hp; omega)
            exact ⟨(hlt _ (by simp)).trans h.1, (hlt _ (Nat.le_refl _)).trans h.2.1, (hlt _ (Nat.le_refl _)).trans h.2.2.1, (hlt _ (Nat.le_refl _)).trans h.2.2.2⟩)
          have HWC := Lib.hid (fun w3 A3 c3 (ho : w3.ownsRow (w2.alloc (.cells #[.int .i64 fr, .int .i64 to, .string tx] 34)).drew.heap.size 34 3 (.slice A3 L'.length c3) L'.length (lts L')) (hb : Below (w2.alloc (.cells #[.int .i64 fr, .int .i64 to, .string tx] 34)).drew.heap.size (w2.alloc (.cells #[.int .i64 fr, .int .i64 to, .string tx] 34)).drew w3) => show Below w2.heap.size w2 w3 ∧ Fr w w3 (w.heap.size + 1 + 1) (some ad) n c ∧ Calls Try.prog 30 #[.agg #[.slice (some ad) n c], .int .i64 to, .slice A3 L'.length c3] w3 (RPost (F2 F (w.heap.size + 1 + 1)) (Q.set k L') w3) from by
            have hb2 : Below w2.heap.size w2 w3 := hba.trans (hb.mono hba.size)
            have hf3 := HF1.out.1.on hb2
            have := with_any Q to L' (A3, L'.length, c3) (hf3.rat HH.out) (hf3.foot HFF.out) HKE.out.2 (slat_own ho (fun b hb => Nat.lt_of_lt_of_le (HF1.out.1.foot HFF.out b hb) hba.size)) hQ'
            rw [HKE.out.1] at this
            exact ⟨hb2, hf3, this⟩)
          clear hf2 hr2 hbb hnw hba hQ hQ'
          go_wp2_with fail
          go_region_held3 (fun w' => w'.cell? ⟨w.heap.size, 0, none⟩ = some (.slice (some ad) n c) ∧ w'.cell? ⟨w.heap.size + 1, 0, none⟩ = some (.int .i64 fr) ∧ w'.cell? ⟨w.heap.size + 1, 1, none⟩ = some (.int .i64 to) ∧ w'.cell? ⟨w.heap.size + 1, 2, none⟩ = some (.string tx))
            (first | exact ⟨x0, l0, l1, l2⟩ | exact ⟨d0, k0, k1, k2⟩ | exact ⟨f0, k0, k1, k2⟩ | exact HST _ | go_keep)
            (first
              | (go_at_call 31
                 with_reducible refine HDD.out.mono ?_
                 rintro e w3 ⟨A3, c3, rfl, ho, hb, _, _⟩
                 obtain ⟨hb3, hf3, hw3⟩ := HWC.out w3 A3 c3 ho hb
                 have HW3 := Lib.hid (And.intro hf3 (And.intro hw3 hb3))
                 obtain ⟨d0, k0, k1, k2⟩ := HKS.out w3 hb3
                 clear ho hb hf3 hw3 hb3)
              | (go_at_call 30
                 with_reducible refine HW3.out.2.1.mono ?_
                 rintro e w4 ⟨A4, n4, c4, rfl, hr4, hb4⟩
                 have HR := Lib.hid (HW3.out.1.ret hb4 hr4)
                 obtain ⟨_, k0, k1, k2⟩ := HKS.out w4 (HW3.out.2.2.trans (hb4.mono HW3.out.2.2.size))
                 obtain ⟨f0, q1, qf, ql, ql1⟩ := (HW3.out.1.on hb4).cells
                 have HST := HKT.out w4 ⟨f0, k0, k1, k2⟩
                 clear hr4 hb4))
          all_goals go_wp2
          all_goals
            obtain ⟨hr, hbf, g0⟩ := HR.out
            refine bodyPost_ret (v := .tuple #[.agg #[.slice A4 n4 c4], .int .i64 0]) (by simp [results, Try.results13, go_sem, g0]) rfl ?_
            exact ⟨A4, n4, c4, rfl, hr, hbf⟩
end
end Go.Proofs.Ytikbgaomiliefaa.Ro
