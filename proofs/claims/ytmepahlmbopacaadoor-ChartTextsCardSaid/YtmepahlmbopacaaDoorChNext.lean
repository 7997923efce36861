/- A chart in a variable, move by move. Conditions: none. -/
import Derived.Test.YtmepahlmbopacaaDoorChAwk
import Derived.Deep.CutRange
set_option linter.unusedVariables false
set_option linter.unusedSimpArgs false
set_option maxRecDepth 100000
namespace Go.Proofs.YtmepahlmbopacaaDoor.Ct
open Go Go.RowKit
theorem i64_mask (n : Int) (m : Nat) (hm : m < 63) : bits .and .i64 n ((2 ^ m - 1 : Nat) : Int) = n % ((2 ^ m : Nat) : Int) := by
  have hp : 2 ^ m ≤ 2 ^ 62 := Nat.pow_le_pow_right (by omega) (by omega)
  have hp0 : 0 < 2 ^ m := Nat.two_pow_pos m
  have hm2 : (BitVec.ofInt 64 ((2 ^ m - 1 : Nat) : Int)).toNat = 2 ^ m - 1 := by
    rw [BitVec.toNat_ofInt]
    generalize 2 ^ m = q at *
    omega
  have key : (BitVec.ofInt 64 n &&& BitVec.ofInt 64 ((2 ^ m - 1 : Nat) : Int)).toNat = (n % ((2 ^ 64 : Nat) : Int)).toNat % 2 ^ m := by
    rw [BitVec.toNat_and, BitVec.toNat_ofInt, hm2, Nat.and_two_pow_sub_one_eq_mod]
  show IntKind.i64.wrap ((BitVec.ofInt 64 n &&& BitVec.ofInt 64 ((2 ^ m - 1 : Nat) : Int)).toNat : Nat) = n % ((2 ^ m : Nat) : Int)
  rw [key, IntKind.wrap_i64]
  have hd : ((2 ^ m : Nat) : Int) ∣ ((2 ^ 64 : Nat) : Int) := Int.natCast_dvd_natCast.2 (Nat.pow_dvd_pow 2 (by omega))
  have e1 : (((n % ((2 ^ 64 : Nat) : Int)).toNat % 2 ^ m : Nat) : Int) = n % ((2 ^ m : Nat) : Int) := by
    rw [Int.natCast_emod, Int.toNat_of_nonneg (Int.emod_nonneg _ (by decide)), Int.emod_emod_of_dvd _ hd]
  rw [e1]
  have h1 := Int.emod_nonneg n (b := ((2 ^ m : Nat) : Int)) (by omega)
  have h2 := Int.emod_lt_of_pos n (b := ((2 ^ m : Nat) : Int)) (by omega)
  generalize n % ((2 ^ m : Nat) : Int) = r at *
  generalize 2 ^ m = q at *
  omega
theorem i64_and7 (n : Int) : bits .and .i64 n 7 = n % 8 := i64_mask n 3 (by omega)
theorem i64_and255 (n : Int) : bits .and .i64 n 255 = n % 256 := i64_mask n 8 (by omega)
theorem done_yes {e : Int} {l : List Int} {s : Nat} {f t : Int} (hm : mayC e l = true) (hs : s < l.length) (ht : 0 ≤ t ∧ t < 8) (hne : t ≠ f) (hf : l.getD s 0 = f) (he : e ≠ 1099511627776) : doneE e l ⟨s, f, t⟩ = 0 ∧ doneN e l ⟨s, f, t⟩ = e + 1 ∧ doneL e l ⟨s, f, t⟩ = l.set s t := by
  have h0 : doneE e l ⟨s, f, t⟩ = 0 := doneE_ok.2 ⟨hm, ⟨by simp, by simpa using hs⟩, ht, hne, by simpa using hf, he⟩
  refine ⟨h0, ?_, ?_⟩
  · rw [doneN, if_pos h0]
  · rw [doneL, if_pos h0]
    simp
theorem done_same {e : Int} {l : List Int} {s : Nat} {t : Int} : doneE e l ⟨s, t, t⟩ = 1 := doneE_bad (.inr (.inr (.inr (.inr rfl))))
theorem set_back {l : List Int} {s : Nat} {f t : Int} (hs : s < l.length) (hf : l.getD s 0 = f) : (l.set s t).set s f = l := by
  rw [List.set_set]
  refine getD_ext (by simp) fun j hj => ?_
  rw [List.length_set] at hj
  by_cases h : s = j
  · subst h
    rw [getD_set_eq hs, hf]
  · rw [getD_set_ne h]
theorem own_cap {w : World} {b : Nat} {A : Option Addr} {n c : Nat} {xs : List Value} (h : w.ownsRow b 3 1 (.slice A n c) n xs) : n ≤ c ∧ c ≤ maxLen := by
  obtain ⟨A', c', hq, h1, h2⟩ := own_shape h
  injection hq with _ _ hq
  subst hq
  exact ⟨h1, h2⟩
/-- What a Done has put into a new variable. -/
structure NX (wr wc : World) (y : Nat) (E : Int) (A3 : Option Addr) (n3 c3 : Nat) (L : List Int) : Prop where
  row : Row wc y 24 [.int .i64 E, .slice A3 n3 c3]
  own : wc.ownsRow wr.heap.size 3 1 (.slice A3 n3 c3) n3 (ints L)
  bel : Below wr.heap.size wr wc
  yw : wr.heap.size ≤ y
section
variable {wr w5 : World} {E : Int} {A3 : Option Addr} {n3 c3 : Nat} {L : List Int}
theorem nx_last (hown : w5.ownsRow wr.drew.heap.size 3 1 (.slice A3 n3 c3) n3 (ints L)) (hb : Below wr.drew.heap.size wr.drew w5) : NX wr (w5.alloc (.cells #[.int .i64 E, .slice A3 n3 c3] 24)) w5.heap.size E A3 n3 c3 L := by
  have hb' : Below wr.heap.size wr w5 := (below_drewN (Below.refl wr.heap.size wr) 1).trans hb
  exact ⟨Row.new w5 24 [.int .i64 E, .slice A3 n3 c3], hown.alloc _, hb'.alloc hb'.size _, hb'.size⟩
abbrev z0W (wr : World) : World := wr.alloc (.cells #[.int .i64 0, .slice none 0 0] 24)
theorem nx_row (hb : Below (z0W wr).drew.heap.size (z0W wr).drew w5) : Row w5 wr.heap.size 24 [.int .i64 0, .slice none 0 0] :=
  (show Row (z0W wr).drew wr.heap.size 24 [.int .i64 0, .slice none 0 0] from Row.new wr 24 [.int .i64 0, .slice none 0 0]).keep (hb.block _ (by show wr.heap.size < (wr.alloc _).heap.size; simp))
theorem below_d (hb : Below wr.drew.heap.size wr.drew w5) : Below wr.heap.size wr w5 := (below_drewN (Below.refl wr.heap.size wr) 1).trans hb
theorem below_z (hb : Below (z0W wr).drew.heap.size (z0W wr).drew w5) : Below wr.heap.size wr w5 := (show Below wr.heap.size wr (z0W wr).drew from below_drewN ((Below.refl wr.heap.size wr).alloc (Nat.le_refl _) _) 1).trans (hb.mono (by show wr.heap.size ≤ (wr.alloc _).heap.size; simp))
theorem nx_first (hown : w5.ownsRow (z0W wr).drew.heap.size 3 1 (.slice A3 n3 c3) n3 (ints L)) (hb : Below (z0W wr).drew.heap.size (z0W wr).drew w5) : NX wr ((w5.setCell ⟨wr.heap.size, 0, none⟩ (.int .i64 E)).setCell ⟨wr.heap.size, 1, none⟩ (.slice A3 n3 c3)) wr.heap.size E A3 n3 c3 L := by
  have e : (z0W wr).drew.heap.size = wr.heap.size + 1 := by show (wr.alloc _).heap.size = _; simp
  have hb' : Below wr.heap.size wr w5 := (show Below wr.heap.size wr (z0W wr).drew from below_drewN ((Below.refl wr.heap.size wr).alloc (Nat.le_refl _) _) 1).trans (hb.mono (by omega))
  rw [e] at hown
  refine ⟨((nx_row hb).set 0 _).set 1 _, own_base (ownsRow_setCell_below (ownsRow_setCell_below hown (by show wr.heap.size < wr.heap.size + 1; omega) _) (by show wr.heap.size < wr.heap.size + 1; omega) _) (Nat.le_succ _), below_setCell (below_setCell hb' (p := ⟨wr.heap.size, 0, none⟩) (Nat.le_refl _) _) (p := ⟨wr.heap.size, 1, none⟩) (Nat.le_refl _) _, Nat.le_refl _⟩
end
theorem reads_set_ne {w : World} {B n : Nat} {A : Option Addr} {xs : List Value} (h : Reads w B 1 A n xs) {p : Nat} (hne : ∀ ad, A = some ad → ad.block ≠ p) (j : Nat) (u : Value) : Reads (w.setCell ⟨p, j, none⟩ u) B 1 A n xs :=
  ⟨h.1, fun hn => by
    obtain ⟨ad, e, hb, hc⟩ := h.2 hn
    exact ⟨ad, e, hb, fun k x hx => (World.cell?_setCell_other w ⟨p, j, none⟩ _ u (fun e2 => hne ad e (by have h3 := congrArg Addr.block e2; simp only [block_of_add] at h3; first | exact h3 | exact h3.symm))).trans (hc k x hx)⟩⟩
/-- A chart in a variable at p, so many moves on. -/
structure GI (w1 wr : World) (p : Nat) (e : Int) (i : Nat) (A : Option Addr) (n c : Nat) (L : List Int) : Prop where
  row : Row wr p 24 [.int .i64 (e + i), .slice A n c]
  rd : Reads wr wr.heap.size 1 A n (ints L)
  ne : ∀ ad, A = some ad → ad.block ≠ p
  nc : n ≤ c
  cm : c ≤ maxLen
  may : mayC (e + i) L = true
  bel : Below w1.heap.size w1 wr
  pw : w1.heap.size ≤ p
theorem GI.next {w1 wr wc : World} {p y : Nat} {e : Int} {i : Nat} {A A3 : Option Addr} {n c n3 c3 : Nat} {L L' : List Int} (h : GI w1 wr p e i A n c L) (hx : NX wr wc y (e + (i + 1 : Nat)) A3 n3 c3 L') (hm : mayC (e + (i + 1 : Nat)) L' = true) :
    wc.cell? ⟨p, 0, none⟩ = some (.int .i64 (e + i)) ∧ wc.cell? ⟨p, 1, none⟩ = some (.slice A n c) ∧ wc.frozen? ⟨p, 0, none⟩ = false ∧ wc.frozen? ⟨p, 1, none⟩ = false ∧ p < wc.heap.size ∧
    wc.cell? ⟨y, 0, none⟩ = some (.int .i64 (e + (i + 1 : Nat))) ∧ wc.cell? ⟨y, 1, none⟩ = some (.slice A3 n3 c3) ∧ y < wc.heap.size ∧
    GI w1 ((wc.setCell ⟨p, 0, none⟩ (.int .i64 (e + (i + 1 : Nat)))).setCell ⟨p, 1, none⟩ (.slice A3 n3 c3)) p e (i + 1) A3 n3 c3 L' := by
  have hp := h.row.lt
  have rp := h.row.keep (hx.bel.block _ hp)
  have hR := Reads.of_own hx.own
  have hne : ∀ ad, A3 = some ad → ad.block ≠ p := fun ad hA hb => by
    subst hA
    have := (hx.own.lt ad.block (by
      rcases hx.own.2 with ⟨h1, _⟩ | ⟨g, cap, cur, h1, _⟩
      · simp at h1
      · injection h1 with h1 _ _
        injection h1 with h1
        subst h1
        rfl)).1
    omega
  obtain ⟨h1, h2⟩ := own_cap hx.own
  have hs : ((wc.setCell ⟨p, 0, none⟩ (.int .i64 (e + (i + 1 : Nat)))).setCell ⟨p, 1, none⟩ (.slice A3 n3 c3)).heap.size = wc.heap.size := by simp
  refine ⟨rp.cell (j := 0) rfl, rp.cell (j := 1) rfl, rp.frozen 0, rp.frozen 1, rp.lt, hx.row.cell (j := 0) rfl, hx.row.cell (j := 1) rfl, hx.row.lt, (rp.set 0 _).set 1 _, ?_, hne, h1, h2, hm, ?_, h.pw⟩
  · rw [hs]
    exact reads_set_ne (reads_set_ne hR hne _ _) hne _ _
  · exact below_setCell (below_setCell (h.bel.trans (hx.bel.mono (by have := h.bel.size; omega))) (p := ⟨p, 0, none⟩) h.pw _) (p := ⟨p, 1, none⟩) h.pw _
/-- What a Done of the next move says, at two worlds. -/
def NextP (er EN : Int) (Ln : List Int) (X : World) (en : Ending) (w' : World) : Prop := ∃ A3 n3 c3, en = .returned (.tuple #[.agg #[.int .i64 EN, .slice A3 n3 c3], .int .i64 er]) ∧ w'.ownsRow X.heap.size 3 1 (.slice A3 n3 c3) n3 (ints Ln) ∧ Below X.heap.size X w'
theorem next_any {w1 wr X : World} {p : Nat} {e : Int} {i : Nat} {A : Option Addr} {n c : Nat} {L : List Int} (h : GI w1 wr p e i A n c L) (hX : Below wr.heap.size wr X) {s : Nat} {f t : Int} (hs : s < L.length) (ht : 0 ≤ t ∧ t < 8) (hne : t ≠ f) (hf : L.getD s 0 = f) :
    ∃ er EN Ln, (er = 0 ∧ EN = e + ((i + 1 : Nat) : Int) ∧ Ln = L.set s t ∧ mayC (e + ((i + 1 : Nat) : Int)) (L.set s t) = true ∨ er = 101 ∧ EN = 0 ∧ Ln = [] ∧ e + i = 1099511627776) ∧
      ∀ X, Below wr.heap.size wr X → Calls Tryd.prog 13 #[.agg #[.int .i64 (e + i), .slice A n c], .agg #[.int .i64 (s : Int), .int .i64 f, .int .i64 t]] X (NextP er EN Ln X) := by
  have hm := h.may
  have hc := mayC_iff.1 hm
  have hD := fun X (hX : Below wr.heap.size wr X) => done_any (w := X) (c := c) (e + i) (h.rd.below hX) hX.size ⟨(s : Int), f, t⟩ h.nc h.cm
  unfold DonePost at hD
  by_cases he : e + i = 1099511627776
  · have h1 : doneE (e + i) L ⟨(s : Int), f, t⟩ = 101 := doneE_epoch (by
      have h2 : nodeC t = true := nodeC_iff.2 ht
      simp only [hm, h2, not_or]
      refine ⟨by simp, by omega, by omega, by simp, hne⟩) (by simpa using hf) he
    refine ⟨101, 0, [], .inr ⟨rfl, rfl, rfl, he⟩, fun X hX => (hD X hX).mono fun en w' hp => ?_⟩
    have h2 : doneN (e + i) L ⟨(s : Int), f, t⟩ = 0 := by rw [doneN, if_neg (by omega)]
    have h3 : doneL (e + i) L ⟨(s : Int), f, t⟩ = [] := by rw [doneL, if_neg (by omega)]
    rw [h1, h2, h3] at hp
    exact hp
  · obtain ⟨d1, d2, d3⟩ := done_yes hm hs ht hne hf he
    have e1 : e + (i : Int) + 1 = e + ((i + 1 : Nat) : Int) := by omega
    refine ⟨0, e + ((i + 1 : Nat) : Int), L.set s t, .inl ⟨rfl, rfl, rfl, mayC_set hm ⟨by omega, by omega⟩ ht⟩, fun X hX => (hD X hX).mono fun en w' hp => ?_⟩
    rw [d1, d2, d3, e1] at hp
    exact hp
end Go.Proofs.YtmepahlmbopacaaDoor.Ct
