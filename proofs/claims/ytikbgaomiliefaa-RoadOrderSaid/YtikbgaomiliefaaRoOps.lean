/- Clear, Drop, Twice, Swap of the document's road. Conditions: its lists lie apart from blocks that turn. -/
import Derived.Test.YtikbgaomiliefaaRoFr
import Derived.Deep.RegionLaw
set_option linter.unusedVariables false
set_option linter.unusedSimpArgs false
set_option maxRecDepth 100000
namespace Go.Proofs.Ytikbgaomiliefaa.Ro
open Go Go.RowKit
theorem with_set {Q : Rd} {to : Int} {l : List Lt} (h : thereQ Q to = true) : withQ Q to l = Q.set (spot to) l := set_form Q (spot to) l (spot_lt h).1
section
variable {w : World} {F : Nat → Prop} {Q : Rd} {A : Option Addr} {n c : Nat}
set_option maxHeartbeats 4000000 in
theorem clear_any (Q : Rd) (to : Int) (h : RAt w F Q A n c) (hF : ∀ b, F b → b < w.heap.size) (hQ : Q.length ≤ 100) (hl : ∀ i, (Q.getD i []).length ≤ 1024) :
    Calls Try.prog 23 #[.agg #[.slice A n c], .int .i64 to] w (REPost F (clearQ Q to).1 (clearQ Q to).2 w) := by
  unfold clearQ
  obtain ⟨W, hW⟩ : ∃ W, W = (w.alloc (.cells #[.slice A n c] 29)).alloc (.cells #[.slice none 0 0] 29) := ⟨_, rfl⟩
  have hfr : Fr w W (w.heap.size + 1) A n c := by rw [hW]; exact fr_start w A n c
  have hlen := h.len
  have HT := there_any Q to W A n c hlen (by omega)
  have HFR := Lib.hid (fun w1 (hb : Below W.heap.size W w1) => hfr.on hb)
  have HH := Lib.hid h
  have HFF := Lib.hid hF
  have HW := Lib.hid hW
  obtain ⟨v0, _, _, vl, _⟩ := hfr.cells
  cases ht : thereQ Q to with
  | false =>
    rw [ht] at HT
    have HT := Lib.hid HT
    clear hW hfr h ht hlen hl hQ
    rw [if_pos rfl]
    go_enter Try.func23, Try.ntmps23
    go_wp2_with fail
    rw [← HW.out]
    with_reducible refine HT.out.mono ?_
    rintro e w1 ⟨rfl, hb1⟩
    have hf1 := HFR.out w1 hb1
    obtain ⟨x0, x1, xf, xl, xl1⟩ := hf1.cells
    have HR := Lib.hid (hf1.ret (Below.refl _ _) (hf1.rat HH.out))
    clear hf1 hb1
    go_wp2
    obtain ⟨hr, hbf, g0⟩ := HR.out
    refine bodyPost_ret (v := .tuple #[.agg #[.slice A n c], .int .i64 1]) (by simp [results, Try.results23, go_sem, g0]) rfl ?_
    exact ⟨A, n, c, rfl, hr, hbf⟩
  | true =>
    rw [ht] at HT
    have HT := Lib.hid HT
    have HD := Lib.hid (fun w1 (hb : Below W.heap.size W w1) => with_any Q to [] nilS ((hfr.on hb).rat h) ((hfr.on hb).foot hF) ht (SlAt.nil w1 _ 0 (by decide)) hQ)
    rw [if_neg (by simp), with_set ht]
    clear hW hfr h ht hlen hl hQ
    go_enter Try.func23, Try.ntmps23
    go_wp2_with fail
    rw [← HW.out]
    with_reducible refine HT.out.mono ?_
    rintro e w1 ⟨rfl, hb1⟩
    have hf1 := HFR.out w1 hb1
    obtain ⟨x0, x1, xf, xl, xl1⟩ := hf1.cells
    have HDD := Lib.hid (HD.out w1 hb1)
    have HRR := Lib.hid (fun w2 (hb : Below w1.heap.size w1 w2) Q' A' n' c' (hr : RAt w2 (F2 F (w.heap.size + 1)) Q' A' n' c') => And.intro (hf1.on hb).cells (hf1.ret hb hr))
    clear hf1 hb1
    go_wp2_with fail
    with_reducible refine HDD.out.mono ?_
    rintro e w2 ⟨A4, n4, c4, rfl, hr2, hb2⟩
    obtain ⟨⟨y0, y1, yf, yl, yl1⟩, HR⟩ := HRR.out w2 hb2 _ _ _ _ hr2
    have HR := Lib.hid HR
    clear hr2 hb2 x0 x1 xf xl xl1
    go_wp2
    obtain ⟨hr, hbf, g0⟩ := HR.out
    refine bodyPost_ret (v := .tuple #[.agg #[.slice A4 n4 c4], .int .i64 0]) (by simp [results, Try.results23, go_sem, g0]) rfl ?_
    exact ⟨A4, n4, c4, rfl, hr, hbf⟩
set_option maxHeartbeats 4000000 in
theorem drop_any (Q : Rd) (to a : Int) (h : RAt w F Q A n c) (hF : ∀ b, F b → b < w.heap.size) (hQ : Q.length ≤ 100) (hl : ∀ i, (Q.getD i []).length ≤ 1024) :
    Calls Try.prog 17 #[.agg #[.slice A n c], .int .i64 to, .int .i64 a] w (REPost F (dropQ Q to a).1 (dropQ Q to a).2 w) := by
  unfold dropQ
  obtain ⟨W, hW⟩ : ∃ W, W = (w.alloc (.cells #[.slice A n c] 29)).alloc (.cells #[.slice none 0 0] 29) := ⟨_, rfl⟩
  have hfr : Fr w W (w.heap.size + 1) A n c := by rw [hW]; exact fr_start w A n c
  have hlen := h.len
  have HT := there_any Q to W A n c hlen (by omega)
  have HFR := Lib.hid (fun w1 (hb : Below W.heap.size W w1) => hfr.on hb)
  have HH := Lib.hid h
  have HFF := Lib.hid hF
  have HW := Lib.hid hW
  obtain ⟨v0, _, _, vl, _⟩ := hfr.cells
  cases ht : thereQ Q to with
  | false =>
    rw [ht] at HT
    have HT := Lib.hid HT
    clear hW hfr h ht hlen hl hQ
    rw [if_pos rfl]
    go_enter Try.func17, Try.ntmps17
    go_wp2_with fail
    rw [← HW.out]
    with_reducible refine HT.out.mono ?_
    rintro e w1 ⟨rfl, hb1⟩
    have hf1 := HFR.out w1 hb1
    obtain ⟨x0, x1, xf, xl, xl1⟩ := hf1.cells
    have HR := Lib.hid (hf1.ret (Below.refl _ _) (hf1.rat HH.out))
    clear hf1 hb1
    go_wp2
    obtain ⟨hr, hbf, g0⟩ := HR.out
    refine bodyPost_ret (v := .tuple #[.agg #[.slice A n c], .int .i64 1]) (by simp [results, Try.results17, go_sem, g0]) rfl ?_
    exact ⟨A, n, c, rfl, hr, hbf⟩
  | true =>
    rw [if_neg (by simp)]
    rw [ht] at HT
    have HT := Lib.hid HT
    obtain ⟨ad, s, rfl, hc, hbk, hs, hsl⟩ := h.at_ ht
    obtain ⟨hk, hkz⟩ := spot_lt ht
    have hll := hl (spot to)
    obtain ⟨sa, sn, sd⟩ := s
    simp only at hsl
    obtain ⟨L, hL⟩ : ∃ L, haveQ Q to = L := ⟨_, rfl⟩
    have hll : L.length ≤ 1024 := by rw [← hL]; exact hll
    obtain ⟨k, hke⟩ : ∃ k, spot to = k := ⟨_, rfl⟩
    rw [hL] at hs hsl ⊢
    rw [hke] at hc hbk hkz hk
    have HC := Lib.hid (fun w1 (hb : Below w.heap.size w w1) => show w1.cell? (ad.add k) = some (.slice sa sn sd) ∧ (ad.add k).block < w1.heap.size from ⟨(hb.cell hbk).trans hc, Nat.lt_of_lt_of_le hbk hb.size⟩)
    have HS := Lib.hid (fun w1 (hb : Below w.heap.size w w1) => (hs.mono (F' := F2 F (w.heap.size + 1)) (fun b hb hl => hb.elim id (fun e => by omega))).turn (Turn.below _ hb))
    have hw1 : IntKind.i64.wrap (to + 1) = (k : Int) := by rw [IntKind.wrap_i64]; omega
    have hkn : (k : Int) < (n : Int) := by omega
    have HWS := Lib.hid (fun (L' : List Lt) => (with_set (l := L') ht).trans (by rw [hke]))
    have HKE := Lib.hid (And.intro hke ht)
    have hsm : sn ≤ sd ∧ sd ≤ maxLen := ⟨hs.le, hs.max⟩
    have HSL := Lib.hid hsl
    have hsn : sn ≤ 1024 := by omega
    clear hW hfr h ht hs hc hbk hk hkz hke hl hlen hL hll hsl
    by_cases hna : a < 0 ∨ (L.length : Int) ≤ a
    · have hcs : a < 0 ∨ (¬ a < 0 ∧ (sn : Int) ≤ a) := by have := HSL.out; omega
      rw [if_pos hna]
      clear hna
      rcases hcs with h0 | ⟨h0, h1⟩
      all_goals
        go_enter Try.func17, Try.ntmps17
        go_wp2_with fail
        rw [← HW.out]
        with_reducible refine HT.out.mono ?_
        rintro e w1 ⟨rfl, hb1⟩
        have hf1 := HFR.out w1 hb1
        obtain ⟨x0, x1, xf, xl, xl1⟩ := hf1.cells
        obtain ⟨hc, hbk⟩ := HC.out w1 hf1.below
        have HR := Lib.hid (hf1.ret (Below.refl _ _) (hf1.rat HH.out))
        clear hf1 hb1
        go_wp2
        obtain ⟨hr, hbf, g0⟩ := HR.out
        refine bodyPost_ret (v := .tuple #[.agg #[.slice (some ad) n c], .int .i64 3]) (by simp [results, Try.results17, go_sem, g0]) rfl ?_
        exact ⟨(some ad), n, c, rfl, hr, hbf⟩
    · rw [if_neg hna]
      obtain ⟨j, rfl⟩ : ∃ j : Nat, a = (j : Int) := ⟨a.toNat, by omega⟩
      have hj : j < sn := by have := HSL.out; omega
      have h0 : ¬ (j : Int) < 0 := by omega
      have h1 : ¬ (sn : Int) ≤ (j : Int) := by omega
      rw [show ((j : Int)).toNat = j from rfl]
      obtain ⟨L', hL'⟩ : ∃ L', cutT L j 1 [] = L' := ⟨_, rfl⟩
      rw [hL', HWS.out]
      have HD1 := Lib.hid (fun w1 (hb : Below w.heap.size w w1) => show Calls Try.prog 31 #[.slice sa sn sd, .int .i64 (j : Int), .int .i64 1, .slice none 0 0] w1 (CutPost w1 L') from by
        rw [← hL']
        exact cut_any L [] j 1 (A := sa) (A2 := none) (n := sn) (c := sd) (n2 := 0) (c2 := 0) (HS.out w1 hb).reads (Reads.none_ : Reads w1 w1.heap.size 3 none 0 []) (Nat.le_refl _) (by omega) (by omega) (by omega) hsm.1 hsm.2)
      have HLL := Lib.hid hL'
      clear hna hL'
      go_enter Try.func17, Try.ntmps17
      go_wp2_with fail
      rw [← HW.out]
      with_reducible refine HT.out.mono ?_
      rintro e w1 ⟨rfl, hb1⟩
      have hf1 := HFR.out w1 hb1
      obtain ⟨x0, x1, xf, xl, xl1⟩ := hf1.cells
      obtain ⟨hc, hbk⟩ := HC.out w1 hf1.below
      have hbd : Below w.heap.size w w1.drew := hf1.below.trans (show Below w.heap.size w1 w1.drew from (Below.refl _ _).drew)
      have HDD := Lib.hid (HD1.out w1.drew hbd)
      have HF1 := Lib.hid hf1
      have HWC := Lib.hid (fun w2 A3 c3 (ho : w2.ownsRow w1.drew.heap.size 34 3 (.slice A3 L'.length c3) L'.length (lts L')) (hb : Below w1.drew.heap.size w1.drew w2) => show Below w1.heap.size w1 w2 ∧ Fr w w2 (w.heap.size + 1) (some ad) n c ∧ Calls Try.prog 30 #[.agg #[.slice (some ad) n c], .int .i64 to, .slice A3 L'.length c3] w2 (RPost (F2 F (w.heap.size + 1)) (Q.set k L') w2) from by
        have hb2 : Below w1.heap.size w1 w2 := (show Below w1.heap.size w1 w1.drew from (Below.refl _ _).drew).trans hb
        have hf2 := HF1.out.on hb2
        have := with_any Q to L' (A3, L'.length, c3) (hf2.rat HH.out) (hf2.foot HFF.out) HKE.out.2 (slat_own ho (fun b hb => HF1.out.foot HFF.out b hb)) hQ
        rw [HKE.out.1] at this
        exact ⟨hb2, hf2, this⟩)
      clear hf1 hb1 hbd
      go_wp2_with fail
      go_region_held3 (fun w' => w'.cell? ⟨w.heap.size, 0, none⟩ = some (.slice (some ad) n c))
        (first | exact x0 | exact d0 | exact f0 | go_keep)
        (first
          | (go_at_call 31
             with_reducible refine HDD.out.mono ?_
             rintro e w2 ⟨A3, c3, rfl, ho, hb, _, _⟩
             obtain ⟨hb2, hf2, hw2⟩ := HWC.out w2 A3 c3 ho hb
             have HW2 := Lib.hid (And.intro hf2 hw2)
             have d0 := hf2.cells.1
             clear ho hb hf2 hw2 hb2)
          | (go_at_call 30
             with_reducible refine HW2.out.2.mono ?_
             rintro e w3 ⟨A4, n4, c4, rfl, hr3, hb3⟩
             have HR := Lib.hid (HW2.out.1.ret hb3 hr3)
             obtain ⟨f0, y1, yf, yl, yl1⟩ := (HW2.out.1.on hb3).cells
             clear hr3 hb3))
      all_goals go_wp2
      all_goals
        obtain ⟨hr, hbf, g0⟩ := HR.out
        refine bodyPost_ret (v := .tuple #[.agg #[.slice A4 n4 c4], .int .i64 0]) (by simp [results, Try.results17, go_sem, g0]) rfl ?_
        exact ⟨A4, n4, c4, rfl, hr, hbf⟩
end
end Go.Proofs.Ytikbgaomiliefaa.Ro
