/- Next of the document's road. Conditions: its lists lie apart from blocks that turn. -/
import Derived.Test.YtikbgaomiliefaaRoSend
set_option linter.unusedVariables false
set_option linter.unusedSimpArgs false
set_option maxRecDepth 100000
namespace Go.Proofs.Ytikbgaomiliefaa.Ro
open Go Go.RowKit
def NPost (F : Nat → Prop) (r : Rd × Lt × Int) (w : World) (e : Ending) (w' : World) : Prop := ∃ A n c, e = .returned (.tuple #[.agg #[.slice A n c], .agg #[.int .i64 r.2.1.1, .int .i64 r.2.1.2.1, .string r.2.1.2.2], .int .i64 r.2.2]) ∧ RAt w' F r.1 A n c ∧ Below w.heap.size w w'
def zl : List Value := [.int .i64 0, .int .i64 0, .string ⟨#[]⟩]
theorem fr_next (w : World) (A : Option Addr) (n c : Nat) : Fr w (((w.alloc (.cells #[.slice A n c] 29)).alloc (.cells #[.slice none 0 0] 29)).alloc (.cells #[.int .i64 0, .int .i64 0, .string ⟨#[]⟩] 34)) (w.heap.size + 1) A n c ∧
    Row (((w.alloc (.cells #[.slice A n c] 29)).alloc (.cells #[.slice none 0 0] 29)).alloc (.cells #[.int .i64 0, .int .i64 0, .string ⟨#[]⟩] 34)) (w.heap.size + 1 + 1) 34 zl := by
  have h0 := fr_start w A n c
  refine ⟨h0.on ((Below.refl _ _).alloc (Nat.le_refl _) _), ?_⟩
  have h := Row.new ((w.alloc (.cells #[.slice A n c] 29)).alloc (.cells #[.slice none 0 0] 29)) 34 zl
  rw [World.size_alloc, World.size_alloc] at h
  exact h
/-- Blocks that turn, and both that it returns. -/
def F3 (F : Nat → Prop) (w : World) : Nat → Prop := F2 (F2 F (w.heap.size + 1 + 1)) (w.heap.size + 1)
section
variable {w w1 w2 : World} {F : Nat → Prop} {Q : Rd} {A : Option Addr} {n c : Nat}
theorem rat3 (h : Fr w w1 (w.heap.size + 1) A n c) (hr : RAt w F Q A n c) : RAt w1 (F3 F w) Q A n c :=
  h.rat (hr.mono (F' := F2 F (w.heap.size + 1 + 1)) (fun b hb hl => hb.elim id (fun e => by omega)))
theorem foot3 (h : Fr w w1 (w.heap.size + 1) A n c) (hz : w.heap.size + 1 + 1 < w1.heap.size) (hF : ∀ b, F b → b < w.heap.size) : ∀ b, F3 F w b → b < w1.heap.size := by
  rintro b ((h1 | h1) | h1)
  · have := hF b h1
    omega
  · omega
  · omega
theorem next_ret (h : Fr w w1 (w.heap.size + 1) A n c) (hz : Row w1 (w.heap.size + 1 + 1) 34 zl) (hb : Below w1.heap.size w1 w2) {Q' : Rd} {A' : Option Addr} {n' c' : Nat} (hr : RAt w2 (F3 F w) Q' A' n' c') (a b : Int) (t : ByteArray) :
    let W := (((w2.setCell ⟨w.heap.size + 1, 0, none⟩ (.slice A' n' c')).setCell ⟨w.heap.size + 1 + 1, 0, none⟩ (.int .i64 a)).setCell ⟨w.heap.size + 1 + 1, 1, none⟩ (.int .i64 b)).setCell ⟨w.heap.size + 1 + 1, 2, none⟩ (.string t)
    RAt W F Q' A' n' c' ∧ Below w.heap.size w W ∧ W.cell? ⟨w.heap.size + 1, 0, none⟩ = some (.slice A' n' c') ∧ W.cell? ⟨w.heap.size + 1 + 1, 0, none⟩ = some (.int .i64 a) ∧ W.cell? ⟨w.heap.size + 1 + 1, 1, none⟩ = some (.int .i64 b) ∧ W.cell? ⟨w.heap.size + 1 + 1, 2, none⟩ = some (.string t) := by
  intro W
  have h2 := h.on hb
  have hz2 := hz.keep (hb.block _ hz.lt)
  have T1 : ∀ (w' : World) (a : Addr) (v : Value), a.block = w.heap.size + 1 ∨ a.block = w.heap.size + 1 + 1 → Turn (F3 F w) w' (F3 F w) (w'.setCell a v) := fun w' a v ha => Turn.set (F3 F w) w' (a := a) (ha.elim .inr (fun e => .inl (.inr e))) v
  have T := (((T1 w2 ⟨w.heap.size + 1, 0, none⟩ (.slice A' n' c') (.inl rfl)).trans (T1 _ ⟨w.heap.size + 1 + 1, 0, none⟩ (.int .i64 a) (.inr rfl))).trans (T1 _ ⟨w.heap.size + 1 + 1, 1, none⟩ (.int .i64 b) (.inr rfl))).trans (T1 _ ⟨w.heap.size + 1 + 1, 2, none⟩ (.string t) (.inr rfl))
  have hra := (hr.turn T).mono (F' := F) (fun b hb _ => .inl (.inl hb))
  have hbb := below_setCell (below_setCell (below_setCell (below_setCell h2.below (p := ⟨w.heap.size + 1, 0, none⟩) (by simp only; omega) (.slice A' n' c')) (p := ⟨w.heap.size + 1 + 1, 0, none⟩) (by simp only; omega) (.int .i64 a)) (p := ⟨w.heap.size + 1 + 1, 1, none⟩) (by simp only; omega) (.int .i64 b)) (p := ⟨w.heap.size + 1 + 1, 2, none⟩) (by simp only; omega) (.string t)
  have r1 := h2.res.set 0 (.slice A' n' c')
  have e : ∀ (w' : World) (j : Nat) (v : Value), (w'.setCell ⟨w.heap.size + 1 + 1, j, none⟩ v).heap[w.heap.size + 1]? = w'.heap[w.heap.size + 1]? := fun w' j v => heap_set_ne w' _ _ (by simp only; omega)
  have r1' := ((r1.keep (e _ 0 (.int .i64 a))).keep (e _ 1 (.int .i64 b))).keep (e _ 2 (.string t))
  have r2 := (((hz2.keep (w' := w2.setCell ⟨w.heap.size + 1, 0, none⟩ (.slice A' n' c')) (heap_set_ne w2 _ _ (by simp only; omega))).set 0 (.int .i64 a)).set 1 (.int .i64 b)).set 2 (.string t)
  exact ⟨hra, hbb, r1'.cell rfl, r2.cell rfl, r2.cell rfl, r2.cell rfl⟩
set_option maxHeartbeats 4000000 in
theorem next_any (Q : Rd) (to : Int) (h : RAt w F Q A n c) (hF : ∀ b, F b → b < w.heap.size) (hQ : Q.length ≤ 100) (hl : ∀ i, (Q.getD i []).length ≤ 1024) :
    Calls Try.prog 15 #[.agg #[.slice A n c], .int .i64 to] w (NPost F (nextQ Q to) w) := by
  unfold nextQ
  obtain ⟨W, hW⟩ : ∃ W, W = ((w.alloc (.cells #[.slice A n c] 29)).alloc (.cells #[.slice none 0 0] 29)).alloc (.cells #[.int .i64 0, .int .i64 0, .string ⟨#[]⟩] 34) := ⟨_, rfl⟩
  obtain ⟨hfr, hrl⟩ : Fr w W (w.heap.size + 1) A n c ∧ Row W (w.heap.size + 1 + 1) 34 zl := by rw [hW]; exact fr_next w A n c
  have hlen := h.len
  have HT := there_any Q to W A n c hlen (by omega)
  have HFR := Lib.hid (fun w1 (hb : Below W.heap.size W w1) => And.intro (hfr.on hb) (hrl.keep (hb.block _ hrl.lt)))
  have HH := Lib.hid h
  have HFF := Lib.hid hF
  have HW := Lib.hid hW
  obtain ⟨v0, _, _, vl, _⟩ := hfr.cells
  cases ht : thereQ Q to with
  | false =>
    rw [ht] at HT
    rw [if_pos rfl]
    have HT := Lib.hid HT
    clear hW hfr hrl h hlen hl hQ ht
    go_enter Try.func15, Try.ntmps15
    go_wp2_with fail
    rw [← HW.out]
    with_reducible refine HT.out.mono ?_
    rintro e w1 ⟨rfl, hb1⟩
    obtain ⟨hf1, hr1⟩ := HFR.out w1 hb1
    obtain ⟨x0, x1, xf, xl, xl1⟩ := hf1.cells
    have l0 := hr1.cell (j := 0) (u := .int .i64 0) rfl
    have l1 := hr1.cell (j := 1) (u := .int .i64 0) rfl
    have l2 := hr1.cell (j := 2) (u := .string ⟨#[]⟩) rfl
    have lf0 := hr1.frozen 0
    have lf1 := hr1.frozen 1
    have lf2 := hr1.frozen 2
    have ll := hr1.lt
    have HR := Lib.hid (next_ret hf1 hr1 (Below.refl _ _) (rat3 hf1 HH.out) 0 0 ⟨#[]⟩)
    clear hf1 hr1 hb1
    go_wp2
    have HRO := HR.out
    clear HR
    generalize (((w1.setCell ⟨w.heap.size + 1, 0, none⟩ (.slice A n c)).setCell ⟨w.heap.size + 1 + 1, 0, none⟩ (.int .i64 0)).setCell ⟨w.heap.size + 1 + 1, 1, none⟩ (.int .i64 (0))).setCell ⟨w.heap.size + 1 + 1, 2, none⟩ (.string ⟨#[]⟩) = WF at *
    obtain ⟨hr, hbf, g0, g1, g2, g3⟩ := HRO
    refine bodyPost_ret (v := .tuple #[.agg #[.slice A n c], .agg #[.int .i64 0, .int .i64 0, .string ⟨#[]⟩], .int .i64 1]) (by simp [results, Try.results15, go_sem, g0, g1, g2, g3]) rfl ?_
    exact ⟨A, n, c, rfl, hr, hbf⟩
  | true =>
    rw [ht] at HT
    rw [if_neg (by simp)]
    have HT := Lib.hid HT
    obtain ⟨ad, s, rfl, hc, hbk, hs, hsl⟩ := h.at_ ht
    obtain ⟨hk, hkz⟩ := spot_lt ht
    have hll := hl (spot to)
    obtain ⟨sa, sn, sd⟩ := s
    simp only at hsl
    obtain ⟨L, hL⟩ : ∃ L, haveQ Q to = L := ⟨_, rfl⟩
    have hll : L.length ≤ 1024 := by rw [← hL]; exact hll
    obtain ⟨k, hke⟩ : ∃ k, spot to = k := ⟨_, rfl⟩
    rw [hL] at hs hsl ⊢
    rw [hke] at hc hbk hkz hk
    have HC := Lib.hid (fun w1 (hb : Below w.heap.size w w1) => show w1.cell? (ad.add k) = some (.slice sa sn sd) ∧ (ad.add k).block < w1.heap.size from ⟨(hb.cell hbk).trans hc, Nat.lt_of_lt_of_le hbk hb.size⟩)
    have HS := Lib.hid (fun w1 (hb : Below w.heap.size w w1) => (hs.turn (Turn.below F hb)))
    have hw1 : IntKind.i64.wrap (to + 1) = (k : Int) := by rw [IntKind.wrap_i64]; omega
    have hkn : (k : Int) < (n : Int) := by omega
    have HWS := Lib.hid (fun (L' : List Lt) => (with_set (l := L') ht).trans (by rw [hke]))
    have HKE := Lib.hid (And.intro hke ht)
    have hsm : sn ≤ sd ∧ sd ≤ maxLen := ⟨hs.le, hs.max⟩
    have HSL := Lib.hid hsl
    have hsn : sn ≤ 1024 := by omega
    have hQ' := hQ
    clear hW hfr hrl h ht hs hc hbk hk hkz hke hl hlen hL hll hsl hQ
    cases L with
    | nil =>
      obtain rfl : sn = 0 := HSL.out
      simp only
      go_enter Try.func15, Try.ntmps15
      go_wp2_with fail
      rw [← HW.out]
      with_reducible refine HT.out.mono ?_
      rintro e w1 ⟨rfl, hb1⟩
      obtain ⟨hf1, hr1⟩ := HFR.out w1 hb1
      obtain ⟨x0, x1, xf, xl, xl1⟩ := hf1.cells
      have l0 := hr1.cell (j := 0) (u := .int .i64 0) rfl
      have l1 := hr1.cell (j := 1) (u := .int .i64 0) rfl
      have l2 := hr1.cell (j := 2) (u := .string ⟨#[]⟩) rfl
      have lf0 := hr1.frozen 0
      have lf1 := hr1.frozen 1
      have lf2 := hr1.frozen 2
      have ll := hr1.lt
      obtain ⟨hc, hbk⟩ := HC.out w1 hf1.below
      have HR := Lib.hid (next_ret hf1 hr1 (Below.refl _ _) (rat3 hf1 HH.out) 0 0 ⟨#[]⟩)
      clear hf1 hr1 hb1
      go_wp2
      have HRO := HR.out
      clear HR
      generalize (((w1.setCell ⟨w.heap.size + 1, 0, none⟩ (.slice (some ad) n c)).setCell ⟨w.heap.size + 1 + 1, 0, none⟩ (.int .i64 0)).setCell ⟨w.heap.size + 1 + 1, 1, none⟩ (.int .i64 (0))).setCell ⟨w.heap.size + 1 + 1, 2, none⟩ (.string ⟨#[]⟩) = WF at *
      obtain ⟨hr, hbf, g0, g1, g2, g3⟩ := HRO
      refine bodyPost_ret (v := .tuple #[.agg #[.slice (some ad) n c], .agg #[.int .i64 0, .int .i64 0, .string ⟨#[]⟩], .int .i64 3]) (by simp [results, Try.results15, go_sem, g0, g1, g2, g3]) rfl ?_
      exact ⟨(some ad), n, c, rfl, hr, hbf⟩
    | cons x r =>
      simp only
      rw [HWS.out]
      have hsp : 0 < sn := by have := HSL.out; simp at this; omega
      obtain ⟨ads, hads⟩ : ∃ ads, sa = some ads := by
        obtain ⟨ads, e, _⟩ := (HS.out w (Below.refl _ _)).reads.2 hsp
        exact ⟨ads, e⟩
      subst hads
      have HE := Lib.hid (fun w1 (hb : Below w.heap.size w w1) => show w1.cell? ads = some (.int .i64 x.1) ∧ w1.cell? ⟨ads.block, ads.off + 1, none⟩ = some (.int .i64 x.2.1) ∧ w1.cell? ⟨ads.block, ads.off + 2, none⟩ = some (.string x.2.2) ∧ ads.block < w1.heap.size from by
        obtain ⟨ad', e, hb', c1, c2, c3⟩ := Ro.Reads.letter (HS.out w1 hb).reads hsp
        injection e with e
        subst e
        exact ⟨c1, c2, c3, hb'⟩)
      have HD1 := Lib.hid (fun w1 (hb : Below w.heap.size w w1) => show Calls Try.prog 31 #[.slice (some ads) sn sd, .int .i64 0, .int .i64 1, .slice none 0 0] w1 (CutPost w1 r) from by
        have h := cut_any (x :: r) [] 0 1 (A := some ads) (A2 := none) (n := sn) (c := sd) (n2 := 0) (c2 := 0) (HS.out w1 hb).reads (Reads.none_ : Reads w1 w1.heap.size 3 none 0 []) (Nat.le_refl _) (by omega) (by omega) (by omega) hsm.1 hsm.2
        exact h)
      have hnz : ¬ (sn : Int) = 0 := by omega
      have hspz : (0 : Int) < (sn : Int) := by omega
      go_enter Try.func15, Try.ntmps15
      go_wp2_with fail
      rw [← HW.out]
      with_reducible refine HT.out.mono ?_
      rintro e w1 ⟨rfl, hb1⟩
      obtain ⟨hf1, hr1⟩ := HFR.out w1 hb1
      obtain ⟨x0, x1, xf, xl, xl1⟩ := hf1.cells
      have l0 := hr1.cell (j := 0) (u := .int .i64 0) rfl
      have l1 := hr1.cell (j := 1) (u := .int .i64 0) rfl
      have l2 := hr1.cell (j := 2) (u := .string ⟨#[]⟩) rfl
      have lf0 := hr1.frozen 0
      have lf1 := hr1.frozen 1
      have lf2 := hr1.frozen 2
      have ll := hr1.lt
      obtain ⟨hc, hbk⟩ := HC.out w1 hf1.below
      obtain ⟨y0, y1, y2, yl⟩ := HE.out w1 hf1.below
      have hbd : Below w.heap.size w w1.drew := hf1.below.trans (show Below w.heap.size w1 w1.drew from (Below.refl _ _).drew)
      have HDD := Lib.hid (HD1.out w1.drew hbd)
      have HF1 := Lib.hid (And.intro hf1 hr1)
      have HKS := Lib.hid (fun w' (hb : Below w1.heap.size w1 w') => show w'.cell? ⟨w.heap.size, 0, none⟩ = some (.slice (some ad) n c) ∧ w'.cell? ads = some (.int .i64 x.1) ∧ w'.cell? ⟨ads.block, ads.off + 1, none⟩ = some (.int .i64 x.2.1) ∧ w'.cell? ⟨ads.block, ads.off + 2, none⟩ = some (.string x.2.2) from by
        obtain ⟨k0, k1, k2, _⟩ := HE.out w' (HF1.out.1.below.trans (hb.mono HF1.out.1.below.size))
        exact ⟨(HF1.out.1.on hb).cells.1, k0, k1, k2⟩)
      have HKT := Lib.hid (fun (w' : World) (h : w'.cell? ⟨w.heap.size, 0, none⟩ = some (.slice (some ad) n c) ∧ w'.cell? ads = some (.int .i64 x.1) ∧ w'.cell? ⟨ads.block, ads.off + 1, none⟩ = some (.int .i64 x.2.1) ∧ w'.cell? ⟨ads.block, ads.off + 2, none⟩ = some (.string x.2.2)) (a : Addr) (ha : w.heap.size < a.block) (v : Value) => show (w'.setCell a v).cell? ⟨w.heap.size, 0, none⟩ = some (.slice (some ad) n c) ∧ (w'.setCell a v).cell? ads = some (.int .i64 x.1) ∧ (w'.setCell a v).cell? ⟨ads.block, ads.off + 1, none⟩ = some (.int .i64 x.2.1) ∧ (w'.setCell a v).cell? ⟨ads.block, ads.off + 2, none⟩ = some (.string x.2.2) from by
        have hlt := fun (p : Addr) (hp : p.block ≤ w.heap.size) => World.cell?_setCell_other w' a p v (fun e => by rw [← e] at hp; omega)
        have hal := (HE.out w (Below.refl _ _)).2.2.2
        exact ⟨(hlt _ (Nat.le_refl _)).trans h.1, (hlt _ (Nat.le_of_lt hal)).trans h.2.1, (hlt ⟨ads.block, ads.off + 1, none⟩ (Nat.le_of_lt hal)).trans h.2.2.1, (hlt ⟨ads.block, ads.off + 2, none⟩ (Nat.le_of_lt hal)).trans h.2.2.2⟩)
      have HWC := Lib.hid (fun w2 A3 c3 (ho : w2.ownsRow w1.drew.heap.size 34 3 (.slice A3 r.length c3) r.length (lts r)) (hb : Below w1.drew.heap.size w1.drew w2) => show Below w1.heap.size w1 w2 ∧ Fr w w2 (w.heap.size + 1) (some ad) n c ∧ Calls Try.prog 30 #[.agg #[.slice (some ad) n c], .int .i64 to, .slice A3 r.length c3] w2 (RPost (F3 F w) (Q.set k r) w2) from by
        have hb2 : Below w1.heap.size w1 w2 := (show Below w1.heap.size w1 w1.drew from (Below.refl _ _).drew).trans hb
        have hf2 := HF1.out.1.on hb2
        have := with_any Q to r (A3, r.length, c3) (rat3 hf2 HH.out) (foot3 hf2 (Nat.lt_of_lt_of_le HF1.out.2.lt hb2.size) HFF.out) HKE.out.2 (slat_own ho (fun b hb => foot3 HF1.out.1 HF1.out.2.lt HFF.out b hb)) hQ'
        rw [HKE.out.1] at this
        exact ⟨hb2, hf2, this⟩)
      have HLR := Lib.hid (fun w2 (hb : Below w1.heap.size w1 w2) => show w2.cell? ⟨w.heap.size + 1 + 1, 0, none⟩ = some (.int .i64 0) ∧ w2.cell? ⟨w.heap.size + 1 + 1, 1, none⟩ = some (.int .i64 0) ∧ w2.cell? ⟨w.heap.size + 1 + 1, 2, none⟩ = some (.string ⟨#[]⟩) ∧ w2.frozen? ⟨w.heap.size + 1 + 1, 0, none⟩ = false ∧ w2.frozen? ⟨w.heap.size + 1 + 1, 1, none⟩ = false ∧ w2.frozen? ⟨w.heap.size + 1 + 1, 2, none⟩ = false ∧ w.heap.size + 1 + 1 < w2.heap.size from by
        have r := HF1.out.2.keep (hb.block _ HF1.out.2.lt)
        exact ⟨r.cell rfl, r.cell rfl, r.cell rfl, r.frozen 0, r.frozen 1, r.frozen 2, r.lt⟩)
      clear hf1 hr1 hb1 hbd
      go_wp2_with fail
      go_region_held3 (fun w' => w'.cell? ⟨w.heap.size, 0, none⟩ = some (.slice (some ad) n c) ∧ w'.cell? ads = some (.int .i64 x.1) ∧ w'.cell? ⟨ads.block, ads.off + 1, none⟩ = some (.int .i64 x.2.1) ∧ w'.cell? ⟨ads.block, ads.off + 2, none⟩ = some (.string x.2.2))
        (first | with_reducible exact ⟨x0, y0, y1, y2⟩ | with_reducible exact ⟨d0, k0, k1, k2⟩ | with_reducible exact HS3 | with_reducible exact HST1 _ | with_reducible exact HST2 _ _ _ _ | with_reducible exact HST3 _ _ _ | with_reducible exact HST4 _ _ _ _ | go_keep)
        (first
          | (go_at_call 31
             with_reducible refine HDD.out.mono ?_
             rintro e w2 ⟨A3, c3, rfl, ho, hb, _, _⟩
             obtain ⟨hb2, hf2, hw2⟩ := HWC.out w2 A3 c3 ho hb
             have HW2 := Lib.hid (And.intro hf2 (And.intro hw2 hb2))
             obtain ⟨d0, k0, k1, k2⟩ := HKS.out w2 hb2
             clear ho hb hf2 hw2 hb2)
          | (go_at_call 30
             with_reducible refine HW2.out.2.1.mono ?_
             rintro e w3 ⟨A4, n4, c4, rfl, hr3, hb3⟩
             have hb13 := HW2.out.2.2.trans (hb3.mono HW2.out.2.2.size)
             have HR := Lib.hid (next_ret HF1.out.1 HF1.out.2 hb13 hr3 x.1 x.2.1 x.2.2)
             have HS3 := HKS.out w3 hb13
             have HST1 := fun v => HKT.out w3 HS3 ⟨w.heap.size + 1, 0, none⟩ (by simp) v
             have HST2 := fun v a b t => HKT.out _ (HKT.out _ (HKT.out _ (HST1 v) ⟨w.heap.size + 1 + 1, 0, none⟩ (by simp only; omega) a) ⟨w.heap.size + 1 + 1, 1, none⟩ (by simp only; omega) b) ⟨w.heap.size + 1 + 1, 2, none⟩ (by simp only; omega) t
             have HST3 := fun a b t => HKT.out _ (HKT.out _ (HKT.out w3 HS3 ⟨w.heap.size + 1 + 1, 0, none⟩ (by simp only; omega) a) ⟨w.heap.size + 1 + 1, 1, none⟩ (by simp only; omega) b) ⟨w.heap.size + 1 + 1, 2, none⟩ (by simp only; omega) t
             have HST4 := fun a b t v => HKT.out _ (HST3 a b t) ⟨w.heap.size + 1, 0, none⟩ (by simp) v
             obtain ⟨f0, q1, qf, ql, ql1⟩ := (HW2.out.1.on hb3).cells
             obtain ⟨j0, j1, j2, jf0, jf1, jf2, jl⟩ := HLR.out w3 hb13
             clear hr3 hb3 hb13))
      all_goals go_wp2
      all_goals
        have HRO := HR.out
        clear HR
        generalize (((w3.setCell ⟨w.heap.size + 1, 0, none⟩ (.slice A4 n4 c4)).setCell ⟨w.heap.size + 1 + 1, 0, none⟩ (.int .i64 x.1)).setCell ⟨w.heap.size + 1 + 1, 1, none⟩ (.int .i64 (x.2.1))).setCell ⟨w.heap.size + 1 + 1, 2, none⟩ (.string x.2.2) = WF at *
        obtain ⟨hr, hbf, g0, g1, g2, g3⟩ := HRO
        refine bodyPost_ret (v := .tuple #[.agg #[.slice A4 n4 c4], .agg #[.int .i64 x.1, .int .i64 x.2.1, .string x.2.2], .int .i64 0]) (by simp [results, Try.results15, go_sem, g0, g1, g2, g3]) rfl ?_
        exact ⟨A4, n4, c4, rfl, hr, hbf⟩
end
end Go.Proofs.Ytikbgaomiliefaa.Ro
