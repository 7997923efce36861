/- What Text of the document's answers returns. Conditions: a table by value. -/
import Derived.Test.YtbijaipoifpngaaDoorDRPut
import Derived.Test.YtbijaipoifpngaaDoorDText
import Derived.Deep.AppendLies
import Derived.Deep.RegionHeld3
set_option linter.unusedVariables false
set_option linter.unusedSimpArgs false
set_option maxRecDepth 100000
namespace Go.Proofs.YtbijaipoifpngaaDoor.Be
open Go Go.RowKit
theorem rnumber_c (n : Int) (w : World) : Calls Tryd.prog 28 #[.int .i64 n] w fun e w' => e = .returned (.agg #[.int .i64 1, .int .i64 n, .string ⟨#[]⟩, .slice none 0 0]) ∧ Below w.heap.size w w' := by
  go_enter Tryd.func28, Tryd.ntmps28
  go_wp2
  refine bodyPost_ret (v := .agg #[.int .i64 1, .int .i64 n, .string ⟨#[]⟩, .slice none 0 0]) (by simp [results, Tryd.results28, go_sem]) rfl ⟨rfl, ?_⟩
  exact (Below.refl _ _).alloc (Nat.le_refl _) _
theorem num_text {q : List E} (h : Okq q) : numT (textT q) = true := by
  have one : ∀ n : Int, 0 ≤ n → n ≤ 9223372036854775807 → numT (tN n) = true := fun n h1 h2 => by simp [tN, numT, h1, h2]
  have row : ∀ (i : Nat) (x : E), i < 1000 → GoodE x → numT (rowT i x) = true := fun i x hi hx => by
    have h0 : 0 ≤ b2i x.b ∧ b2i x.b ≤ 1 := by cases x.b <;> exact ⟨by decide, by decide⟩
    have h1 := hx.1
    have h2 := hx.2.1
    simp [rowT, tR, numT, numL, one _ (by omega : (0 : Int) ≤ (i : Int)) (by omega), one x.s (by omega) (by omega), one x.e (by omega) (by omega), one _ h0.1 (by omega)]
  have all : ∀ (q : List E) (i : Nat), i + q.length < 1000 → (∀ x ∈ q, GoodE x) → numL (rowsFrom i q) = true := fun q => by
    induction q with
    | nil => intro i _ _; rfl
    | cons x r ih =>
      intro i hi h
      simp only [List.length_cons] at hi
      have := ih (i + 1) (by omega) (fun y hy => h y (List.mem_cons_of_mem _ hy))
      simp only [rowsFrom]
      split
      · simp [numL, this, row i x (by omega) (h x (List.mem_cons_self ..))]
      · exact this
  have := all q 0 (by have := h.len; omega) h.good
  simp [textT, numT, this]
/-- What is kept from round to round. -/
structure TT (w : World) (q : List E) (v : Value) (wr : World) (k : Nat) (xs : List Value) : Prop where
  tb : TabV wr w.heap.size q
  vb : Row wr (w.heap.size + 1) 68 [.int .i64 3, .int .i64 0, .string ⟨#[]⟩, v]
  own : wr.ownsRow (w.heap.size + 2) 68 4 v (rowsFrom 0 (q.take k)).length xs
  rdl : RdL (fun b => w.heap.size + 2 ≤ b ∧ some b ≠ v.ownBlock) wr (rowsFrom 0 (q.take k)) xs
  bel : Below w.heap.size w wr
theorem TT.on {w w1 w2 : World} {q : List E} {v : Value} {k : Nat} {xs : List Value} (h : TT w q v w1 k xs) (hb : Below w1.heap.size w1 w2) : TT w q v w2 k xs :=
  ⟨h.tb.on hb, h.vb.on hb, own_below h.own hb, RdL.keep (Keeps.of_below hb (fun b _ hb => hb)) _ _ h.rdl, h.bel.trans (hb.mono h.bel.size)⟩
theorem TT.skip {w w1 : World} {q : List E} {v : Value} {k : Nat} {xs : List Value} (h : TT w q v w1 k xs) (hk : k < q.length) (hs : ¬ 0 < q[k]!.s) : TT w q v w1 (k + 1) xs :=
  ⟨h.tb, h.vb, by rw [rows_no q hk hs]; exact h.own, by rw [rows_no q hk hs]; exact h.rdl, h.bel⟩
theorem TT.cells {w w1 : World} {q : List E} {v : Value} {k : Nat} {xs : List Value} (h : TT w q v w1 k xs) {j : Nat} (hj : j < 8) : w1.cell? ⟨w.heap.size, j * 3, none⟩ = some (.int .i64 q[j]!.s) ∧ w1.cell? ⟨w.heap.size, j * 3 + 1, none⟩ = some (.int .i64 q[j]!.e) ∧ w1.cell? ⟨w.heap.size, j * 3 + 2, none⟩ = some (.bool q[j]!.b) ∧ w1.cell? ⟨w.heap.size + 1, 3, none⟩ = some v ∧ w1.frozen? ⟨w.heap.size + 1, 3, none⟩ = false ∧ w.heap.size + 1 < w1.heap.size := by
  obtain ⟨a, b, c⟩ := h.tb.cell hj
  exact ⟨a, b, c, h.vb.cell rfl, h.vb.frozen 3, h.vb.lt⟩
theorem TT.at_ {w w1 : World} {q : List E} {v : Value} {k : Nat} {xs : List Value} (h : TT w q v w1 k xs) {j : Nat} (hj : j < 8) {s e : Int} {b : Bool} (hx : q[j]! = ⟨s, e, b⟩) : w1.cell? ⟨w.heap.size, j * 3, none⟩ = some (.int .i64 s) ∧ w1.cell? ⟨w.heap.size, j * 3 + 1, none⟩ = some (.int .i64 e) ∧ w1.cell? ⟨w.heap.size + 1, 3, none⟩ = some v ∧ w1.frozen? ⟨w.heap.size + 1, 3, none⟩ = false ∧ w.heap.size + 1 < w1.heap.size := by
  obtain ⟨a, b, c, d, e, f⟩ := h.cells hj
  rw [hx] at a b
  exact ⟨a, b, d, e, f⟩
theorem TT.past {w w9 W w10 : World} {q : List E} {v : Value} {k : Nat} {xs : List Value} (h : TT w q v w9 k xs) (hb : Below w9.heap.size w9 W) (hg : W.grownBy w10 v.ownBlock) : Row w10 (w.heap.size + 1) 68 [.int .i64 3, .int .i64 0, .string ⟨#[]⟩, v] ∧ TabV w10 w.heap.size q ∧ Below w.heap.size w w10 := by
  have h2 := h.on hb
  have hne : ∀ b, b < w.heap.size + 2 → some b ≠ v.ownBlock := fun b hb e => by have := (own_lt h2.own b e.symm).1; omega
  refine ⟨h2.vb.keep (hg.block _ h2.vb.lt (hne _ (by omega))), h2.tb.keep (hg.block _ h2.tb.lt (hne _ (by omega))), ?_⟩
  exact h2.bel.grown hg h2.bel.size (fun g e => by have := (own_lt h2.own g e).1; omega)
theorem TabV.at2 {w : World} {b : Nat} {q : List E} (h : TabV w b q) {k : Nat} (hk : k < 8) {s e : Int} {bb : Bool} (hx : q[k]! = ⟨s, e, bb⟩) : w.cell? ⟨b, k * 3, none⟩ = some (.int .i64 s) ∧ w.cell? ⟨b, k * 3 + 1, none⟩ = some (.int .i64 e) := by
  obtain ⟨a1, a2, a3⟩ := h.cell hk
  rw [hx] at a1 a2
  exact ⟨a1, a2⟩
theorem TT.facts {w w10 : World} {v : Value} (h : Row w10 (w.heap.size + 1) 68 [.int .i64 3, .int .i64 0, .string ⟨#[]⟩, v]) : w10.cell? ⟨w.heap.size + 1, 3, none⟩ = some v ∧ w10.frozen? ⟨w.heap.size + 1, 3, none⟩ = false ∧ w.heap.size + 1 < w10.heap.size := ⟨h.cell rfl, h.frozen 3, h.lt⟩
/-- The world in which a row's value was laid, and then a slice of it alone. -/
theorem laid_row {w : World} (cs ds : List Value) (T : TypeId) : Row ((w.alloc (.cells cs.toArray T)).alloc (.cells ds.toArray T)) w.heap.size T cs ∧ Row ((w.alloc (.cells cs.toArray T)).alloc (.cells ds.toArray T)) (w.heap.size + 1) T ds ∧ Below w.heap.size w ((w.alloc (.cells cs.toArray T)).alloc (.cells ds.toArray T)) := by
  refine ⟨(Row.new w T cs).al _, ?_, ((Below.refl _ _).alloc (Nat.le_refl _) _).alloc (by simp) _⟩
  have := Row.new (w.alloc (.cells cs.toArray T)) T ds
  rw [show (w.alloc (.cells cs.toArray T)).heap.size = w.heap.size + 1 by simp] at this
  exact this
theorem TT.next {w w9 w10 : World} {q : List E} {v : Value} {k : Nat} {xs : List Value} {s e m : Int} {b : Bool} {g cap : Nat} {A16 : Array Value} (h : TT w q v w9 k xs) (hlt : k < 8) (hk : k < q.length) (hx : q[k]! = ⟨s, e, b⟩) (hs : 0 < s) (hm : m = b2i b) (hA : A16 = (rcells (k : Int) s e m).toArray := by rfl)
    (hown : w10.ownsRow (w.heap.size + 2) 68 4 (.slice (some ⟨g, 0, none⟩) ((rowsFrom 0 (q.take k)).length + 1) cap) ((rowsFrom 0 (q.take k)).length + 1) (xs ++ [.int .i64 3, .int .i64 0, .string ⟨#[]⟩, .slice (some ⟨w9.heap.size, 0, none⟩) 4 4]))
    (hg : ((w9.alloc (.cells A16 68)).alloc (.cells #[.int .i64 3, .int .i64 0, .string ⟨#[]⟩, .slice (some ⟨w9.heap.size, 0, none⟩) 4 4] 68)).grownBy w10 v.ownBlock)
    (ho : v.ownBlock = some g ∨ g = ((w9.alloc (.cells A16 68)).alloc (.cells #[.int .i64 3, .int .i64 0, .string ⟨#[]⟩, .slice (some ⟨w9.heap.size, 0, none⟩) 4 4] 68)).heap.size) :
    TT w q (.slice (some ⟨g, 0, none⟩) ((rowsFrom 0 (q.take k)).length + 1) cap) (w10.setCell ⟨w.heap.size + 1, 3, none⟩ (.slice (some ⟨g, 0, none⟩) ((rowsFrom 0 (q.take k)).length + 1) cap)) (k + 1) (xs ++ [.int .i64 3, .int .i64 0, .string ⟨#[]⟩, .slice (some ⟨w9.heap.size, 0, none⟩) 4 4]) ∧
      (Row w10 (w.heap.size + 1) 68 [.int .i64 3, .int .i64 0, .string ⟨#[]⟩, v] ∧ TabV w10 w.heap.size q) := by
  subst hA
  obtain ⟨l1, l2, l3⟩ := laid_row (w := w9) (rcells (k : Int) s e m) [.int .i64 3, .int .i64 0, .string ⟨#[]⟩, .slice (some ⟨w9.heap.size, 0, none⟩) 4 4] 68
  obtain ⟨p1, p2, p3⟩ := h.past l3 hg
  have hvl := h.vb.lt
  have hrows : rowsFrom 0 (q.take (k + 1)) = rowsFrom 0 (q.take k) ++ [rowT k ⟨s, e, b⟩] := by
    rw [rows_yes q hk (by rw [hx]; exact hs), hx]
  have hrd : Rd (fun bl => w9.heap.size ≤ bl) ((w9.alloc (.cells (rcells (k : Int) s e m).toArray 68)).alloc (.cells #[.int .i64 3, .int .i64 0, .string ⟨#[]⟩, .slice (some ⟨w9.heap.size, 0, none⟩) 4 4] 68)) (rowT k ⟨s, e, b⟩) [.int .i64 3, .int .i64 0, .string ⟨#[]⟩, .slice (some ⟨w9.heap.size, 0, none⟩) 4 4] := by
    unfold rowT
    simp only [← hm]
    refine ⟨some ⟨w9.heap.size, 0, none⟩, 4, rcells (k : Int) s e m, rfl, by simp [maxLen], by simp, by simp [maxLen], ⟨rfl, fun _ => ⟨_, rfl, Nat.le_refl _, l1.lt, l1.frozen 0, fun j u hj => by rw [add_flat, Nat.zero_add]; exact l1.cell hj⟩⟩, rdl4 _ _ _ _ _ _⟩
  have hrl2 : RdL (fun bl => w.heap.size + 2 ≤ bl ∧ some bl ≠ v.ownBlock) _ (rowsFrom 0 (q.take k)) xs := RdL.keep (Keeps.of_below l3 (fun b _ hb => hb)) _ _ h.rdl
  have hmore := rdl_more (v' := .slice (some ⟨g, 0, none⟩) ((rowsFrom 0 (q.take k)).length + 1) cap) hrl2 hrd (by omega) (fun gg hgg => (own_lt h.own gg hgg).2) hg (ho.imp (fun e => e.symm) (fun e gg hgg => by have h1 : some g = some gg := hgg; injection h1 with h1; rw [← h1, e]; exact Nat.le_refl _))
  have hkp : Keeps (fun bl => w.heap.size + 2 ≤ bl ∧ some bl ≠ (Value.slice (some ⟨g, 0, none⟩) ((rowsFrom 0 (q.take k)).length + 1) cap).ownBlock) w10 (w10.setCell ⟨w.heap.size + 1, 3, none⟩ (.slice (some ⟨g, 0, none⟩) ((rowsFrom 0 (q.take k)).length + 1) cap)) := Keeps.setCell (Keeps.refl _ _) _ (by simp) _
  refine ⟨⟨p2.keep (heap_set_ne _ _ _ (by simp)), p1.set 3 _, ?_, ?_, p3.setCell (by simp) _⟩, p1, p2⟩
  · rw [hrows, List.length_append]
    exact ownsRow_setCell_below hown (by simp) _
  · rw [hrows]
    exact RdL.keep hkp _ _ hmore
set_option maxHeartbeats 8000000 in
theorem rtext_any {w : World} {q : List E} (hq : Okq q) : Calls Tryd.prog 16 #[tabV q] w fun e w' => e = .returned (.string (textB q)) ∧ Below w.heap.size w w' := by
  have hq8 := hq.len
  have h0 : TT w q (.slice none 0 0) ((w.alloc (.cells (qc q).toArray 29)).alloc (.cells #[.int .i64 3, .int .i64 0, .string ⟨#[]⟩, .slice none 0 0] 68)) 0 [] := by
    refine ⟨(TabV.new w q hq8).al _, ?_, World.ownsRow_nil .., rfl, ((Below.refl _ _).alloc (Nat.le_refl _) _).alloc (by simp) _⟩
    have := Row.new (w.alloc (.cells (qc q).toArray 29)) 68 [.int .i64 3, .int .i64 0, .string ⟨#[]⟩, .slice none 0 0]
    rw [show (w.alloc (.cells (qc q).toArray 29)).heap.size = w.heap.size + 1 by simp] at this
    exact this
  have H0 := Lib.hid h0
  clear h0
  unfold tabV
  go_enter Tryd.func16, Tryd.ntmps16
  go_wp2_with fail
  go_loopw [4] (fun i wr => ∃ (k : Nat) (v : Value) (xs : List Value), i = .int .i64 (k : Int) ∧ k ≤ 8 ∧ TT w q v wr k xs) (fun i _ => 8 - (intOf i).toNat)
  case atStart => exact ⟨0, _, [], rfl, Nat.zero_le _, H0.out⟩
  case round =>
    obtain ⟨k, v, xs, rfl, hk, hV⟩ := hrel
    by_cases hlt : k < 8
    · have hltz : (k : Int) < 8 := by omega
      have hkq : k < q.length := by omega
      obtain ⟨c1, c2, c3, c4, c5, c6⟩ := hV.cells hlt
      have hgd := hq.at_ hlt
      obtain ⟨x, hx⟩ : ∃ x, q[k]! = x := ⟨_, rfl⟩
      rw [hx] at c1 c2 c3 hgd
      have hsk := hV.skip hkq
      rw [hx] at hsk
      have HX := Lib.hid hx
      clear hx
      obtain ⟨s, e, b⟩ := x
      simp only at c1 c2 c3
      by_cases hs : s = 0
      · have HSK := Lib.hid (hsk (by simp [hs]))
        have hsb : (s == 0) = true := by simpa using hs
        clear hsk hV hgd
        go_wp2_with fail
        exact ⟨⟨k + 1, v, xs, by go_num, by omega, HSK.out⟩, by simp [intOf]; omega⟩
      · have hs0 : 0 < s := by have := hgd.1.1; simp only at this; omega
        have hsb : (s == 0) = false := by simpa using hs
        have HV := Lib.hid hV
        clear hV hsk hgd
        obtain ⟨i0, hi, hz0, hz1, hz2⟩ := info_parts value_row
        have hn := rows_len (q.take k) 0
        rw [List.length_take, Nat.min_eq_left (by omega)] at hn
        rcases b with _ | _
        · go_wp2_with fail
          have HT9 : Hid (TT w q v wr.drew k xs) := Lib.hid (HV.out.on ((Below.refl _ wr).drew))
          obtain ⟨d1, d2, d4, d5, d6⟩ := HT9.out.at_ hlt HX.out
          clear c1 c2 c3 c4 c5 c6
          refine wp_region_held_drew (S := (fun w' => w'.cell? ⟨w.heap.size, k * 3, none⟩ = some (.int .i64 s) ∧ w'.cell? ⟨w.heap.size, k * 3 + 1, none⟩ = some (.int .i64 e))) (by kernel_rfl) ?_ (fun hHeld => ?_)
          · exact ⟨d1, d2⟩
          refine wpAnyH_take (i := 0) (oi := ⟨_, _, _, _, _, _⟩) (v := ?_) rfl (by kernel_rfl) (by kernel_rfl) (by kernel_rfl) (fun _ _ _ h => h) (Or.inl ⟨by rfl, ?_⟩) (by assumption) ?_
          rotate_left
          · intro w hSw; (try dsimp only at hSw); go_simp <;> with_reducible rfl
          try simp only [Act.put, List.setIfInBounds_toArray, List.set_cons_zero, List.set_cons_succ]
          refine wpAnyH_take (i := 2) (oi := ⟨_, _, _, _, _, _⟩) (v := ?_) rfl (by kernel_rfl) (by kernel_rfl) (by kernel_rfl) (fun _ _ _ h => h) (Or.inl ⟨by rfl, ?_⟩) (by assumption) ?_
          rotate_left
          · intro w hSw; (try dsimp only at hSw); go_simp <;> with_reducible rfl
          try simp only [Act.put, List.setIfInBounds_toArray, List.set_cons_zero, List.set_cons_succ]
          refine wpAnyH_take (i := 4) (oi := ⟨_, _, _, _, _, _⟩) (v := ?_) rfl (by kernel_rfl) (by kernel_rfl) (by kernel_rfl) (fun _ _ _ h => h) (Or.inl ⟨by rfl, ?_⟩) (by assumption) ?_
          rotate_left
          · intro w hSw; (try dsimp only at hSw); go_simp <;> with_reducible rfl
          try simp only [Act.put, List.setIfInBounds_toArray, List.set_cons_zero, List.set_cons_succ]
          refine wpAnyH_take (i := 5) (oi := ⟨_, _, _, _, _, _⟩) (v := ?_) rfl (by kernel_rfl) (by kernel_rfl) (by kernel_rfl) (fun _ _ _ h => h) (Or.inl ⟨by rfl, ?_⟩) (by assumption) ?_
          rotate_left
          · intro w hSw; (try dsimp only at hSw); go_simp <;> with_reducible rfl
          try simp only [Act.put, List.setIfInBounds_toArray, List.set_cons_zero, List.set_cons_succ]
          refine wpAnyH_take (i := 6) (oi := ⟨_, _, _, _, _, _⟩) (v := ?_) rfl (by kernel_rfl) (by kernel_rfl) (by kernel_rfl) (fun _ _ _ h => h) (Or.inl ⟨by rfl, ?_⟩) (by assumption) ?_
          rotate_left
          · intro w hSw; (try dsimp only at hSw); go_simp <;> with_reducible rfl
          try simp only [Act.put, List.setIfInBounds_toArray, List.set_cons_zero, List.set_cons_succ]
          refine wpAnyH_take (i := 7) (oi := ⟨_, _, _, _, _, _⟩) (v := ?_) rfl (by kernel_rfl) (by kernel_rfl) (by kernel_rfl) (fun _ _ _ h => h) (Or.inl ⟨by rfl, ?_⟩) (by assumption) ?_
          rotate_left
          · intro w hSw; (try dsimp only at hSw); go_simp <;> with_reducible rfl
          try simp only [Act.put, List.setIfInBounds_toArray, List.set_cons_zero, List.set_cons_succ]
          refine wpAnyH_take (i := 9) (oi := ⟨_, _, _, _, _, _⟩) (v := ?_) rfl (by kernel_rfl) (by kernel_rfl) (by kernel_rfl) (fun _ _ _ h => h) (Or.inl ⟨by rfl, ?_⟩) (by assumption) ?_
          rotate_left
          · intro w hSw; (try dsimp only at hSw); go_simp <;> with_reducible rfl
          try simp only [Act.put, List.setIfInBounds_toArray, List.set_cons_zero, List.set_cons_succ]
          refine wpAnyH_take (i := 10) (oi := ⟨_, _, _, _, _, _⟩) (v := ?_) rfl (by kernel_rfl) (by kernel_rfl) (by kernel_rfl) (fun _ _ _ h => h) (Or.inl ⟨by rfl, ?_⟩) (by assumption) ?_
          rotate_left
          · intro w hSw; (try dsimp only at hSw); go_simp <;> with_reducible rfl
          try simp only [Act.put, List.setIfInBounds_toArray, List.set_cons_zero, List.set_cons_succ]
          refine wpAnyH_take (i := 11) (oi := ⟨_, _, _, _, _, _⟩) (v := ?_) rfl (by kernel_rfl) (by kernel_rfl) (by kernel_rfl) (fun _ _ _ h => h) (Or.inl ⟨by rfl, ?_⟩) (by assumption) ?_
          rotate_left
          · intro w hSw; (try dsimp only at hSw); go_simp <;> with_reducible rfl
          try simp only [Act.put, List.setIfInBounds_toArray, List.set_cons_zero, List.set_cons_succ]
          refine wpAnyH_take (i := 12) (oi := ⟨_, _, _, _, _, _⟩) (v := ?_) rfl (by kernel_rfl) (by kernel_rfl) (by kernel_rfl) (fun _ _ _ h => h) (Or.inl ⟨by rfl, ?_⟩) (by assumption) ?_
          rotate_left
          · intro w hSw; (try dsimp only at hSw); go_simp <;> with_reducible rfl
          try simp only [Act.put, List.setIfInBounds_toArray, List.set_cons_zero, List.set_cons_succ]
          refine wpAnyH_take (i := 14) (oi := ⟨_, _, _, _, _, _⟩) (v := ?_) rfl (by kernel_rfl) (by kernel_rfl) (by kernel_rfl) (fun _ _ _ h => h) (Or.inl ⟨by rfl, ?_⟩) (by assumption) ?_
          rotate_left
          · intro w hSw; (try dsimp only at hSw); go_simp <;> with_reducible rfl
          try simp only [Act.put, List.setIfInBounds_toArray, List.set_cons_zero, List.set_cons_succ]
          refine wpAnyH_ready (rs := [1, 3]) (by kernel_rfl) (by simp) ?_
          refine AllReadyH.cons (o := ⟨_, _, _, _, _, _⟩) rfl (fun K hK => ?_) (AllReadyH.cons (o := ⟨_, _, _, _, _, _⟩) rfl (fun K hK => ?_) AllReadyH.nil)
          · go_simp
            refine hK.out _ _ ?_ (fun hHeld => ?_)
            · exact ⟨d1, d2⟩
            clear hK K
            try simp only [Act.put, List.setIfInBounds_toArray, List.set_cons_zero, List.set_cons_succ]
            refine wpAnyH_ready (rs := [3]) (by kernel_rfl) (by simp) ?_
            refine AllReadyH.cons (o := ⟨_, _, _, _, _, _⟩) rfl (fun K hK => ?_) AllReadyH.nil
            go_simp; go_at_call 28; refine (rnumber_c _ _).mono ?_; rintro en w9 ⟨rfl, hb9⟩; have HT9 : Hid (TT w q v w9 k xs) := Lib.hid (HT9.out.on hb9); obtain ⟨d1, d2, d4, d5, d6⟩ := HT9.out.at_ hlt HX.out; clear hb9
            refine hK.out _ _ ?_ (fun hHeld => ?_)
            · exact ⟨d1, d2⟩
            clear hK K
            try simp only [Act.put, List.setIfInBounds_toArray, List.set_cons_zero, List.set_cons_succ]
            refine wpAnyH_ready (rs := [8]) (by kernel_rfl) (by simp) ?_
            refine AllReadyH.cons (o := ⟨_, _, _, _, _, _⟩) rfl (fun K hK => ?_) AllReadyH.nil
            go_simp; go_at_call 28; refine (rnumber_c _ _).mono ?_; rintro en w9 ⟨rfl, hb9⟩; have HT9 : Hid (TT w q v w9 k xs) := Lib.hid (HT9.out.on hb9); obtain ⟨d1, d2, d4, d5, d6⟩ := HT9.out.at_ hlt HX.out; clear hb9
            refine hK.out _ _ ?_ (fun hHeld => ?_)
            · exact ⟨d1, d2⟩
            clear hK K
            try simp only [Act.put, List.setIfInBounds_toArray, List.set_cons_zero, List.set_cons_succ]
            refine wpAnyH_ready (rs := [13]) (by kernel_rfl) (by simp) ?_
            refine AllReadyH.cons (o := ⟨_, _, _, _, _, _⟩) rfl (fun K hK => ?_) AllReadyH.nil
            go_simp; go_at_call 28; refine (rnumber_c _ _).mono ?_; rintro en w9 ⟨rfl, hb9⟩; have HT9 : Hid (TT w q v w9 k xs) := Lib.hid (HT9.out.on hb9); obtain ⟨d1, d2, d4, d5, d6⟩ := HT9.out.at_ hlt HX.out; clear hb9
            refine hK.out _ _ ?_ (fun hHeld => ?_)
            · exact ⟨d1, d2⟩
            clear hK K
            try simp only [Act.put, List.setIfInBounds_toArray, List.set_cons_zero, List.set_cons_succ]
            refine wpAnyH_ready (rs := [15]) (by kernel_rfl) (by simp) ?_
            refine AllReadyH.cons (o := ⟨_, _, _, _, _, _⟩) rfl (fun K hK => ?_) AllReadyH.nil
            go_simp; go_at_call 28; refine (rnumber_c _ _).mono ?_; rintro en w9 ⟨rfl, hb9⟩; have HT9 : Hid (TT w q v w9 k xs) := Lib.hid (HT9.out.on hb9); obtain ⟨d1, d2, d4, d5, d6⟩ := HT9.out.at_ hlt HX.out; clear hb9
            refine hK.out _ _ ?_ (fun hHeld => ?_)
            · exact ⟨d1, d2⟩
            clear hK K
            try simp only [Act.put, List.setIfInBounds_toArray, List.set_cons_zero, List.set_cons_succ]
            refine wpAnyH_ready (rs := [16]) (by kernel_rfl) (by simp) ?_
            refine AllReadyH.cons (o := ⟨_, _, _, _, _, _⟩) rfl (fun K hK => ?_) AllReadyH.nil
            have HTA : Hid (TT w q v (w9.alloc (.cells #[.int .i64 1, .int .i64 (k : Int), .string ⟨#[]⟩, .slice none 0 0, .int .i64 1, .int .i64 s, .string ⟨#[]⟩, .slice none 0 0, .int .i64 1, .int .i64 e, .string ⟨#[]⟩, .slice none 0 0, .int .i64 1, .int .i64 0, .string ⟨#[]⟩, .slice none 0 0] 68)) k xs) := Lib.hid (HT9.out.on ((Below.refl _ w9).alloc (Nat.le_refl _) _))
            obtain ⟨d1, d2, d4, d5, d6⟩ := HTA.out.at_ hlt HX.out
            go_simp
            refine hK.out _ _ ?_ (fun hHeld => ?_)
            · exact ⟨d1, d2⟩
            clear hK K
            try simp only [Act.put, List.setIfInBounds_toArray, List.set_cons_zero, List.set_cons_succ]
            refine wpAnyH_take (i := 17) (oi := ⟨_, _, _, _, _, _⟩) (v := ?_) rfl (by kernel_rfl) (by kernel_rfl) (by kernel_rfl) (fun _ _ _ h => h) (Or.inl ⟨by rfl, ?_⟩) (by assumption) ?_
            rotate_left
            · intro w hSw; (try dsimp only at hSw); go_simp <;> with_reducible rfl
            try simp only [Act.put, List.setIfInBounds_toArray, List.set_cons_zero, List.set_cons_succ]
            refine wpAnyH_ready (rs := [18]) (by kernel_rfl) (by simp) ?_
            refine AllReadyH.cons (o := ⟨_, _, _, _, _, _⟩) rfl (fun K hK => ?_) AllReadyH.nil
            have HTB : Hid (TT w q v ((w9.alloc (.cells #[.int .i64 1, .int .i64 (k : Int), .string ⟨#[]⟩, .slice none 0 0, .int .i64 1, .int .i64 s, .string ⟨#[]⟩, .slice none 0 0, .int .i64 1, .int .i64 e, .string ⟨#[]⟩, .slice none 0 0, .int .i64 1, .int .i64 0, .string ⟨#[]⟩, .slice none 0 0] 68)).alloc (.cells #[.int .i64 3, .int .i64 0, .string ⟨#[]⟩, .slice (some ⟨w9.heap.size, 0, none⟩) 4 4] 68)) k xs) := Lib.hid (HTA.out.on ((Below.refl _ _).alloc (Nat.le_refl _) _))
            obtain ⟨d1, d2, d4, d5, d6⟩ := HTB.out.at_ hlt HX.out
            go_simp
            refine hK.out _ _ ?_ (fun hHeld => ?_)
            · exact ⟨d1, d2⟩
            clear hK K
            try simp only [Act.put, List.setIfInBounds_toArray, List.set_cons_zero, List.set_cons_succ]
            refine wpAnyH_ready (rs := [19]) (by kernel_rfl) (by simp) ?_
            refine AllReadyH.cons (o := ⟨_, _, _, _, _, _⟩) rfl (fun K hK => ?_) AllReadyH.nil
            refine step_append_lies _ rfl (.tmp 23) (.tmp 40) 66 rfl (w.heap.size + 2) 68 i0 _ 4 56 Tryd.underlying66 hi hz0 hz1 hz2 rfl (by decide) v _ xs rfl HTB.out.own ⟨w9.heap.size + 1, 0, none⟩ 1 1 [.int .i64 3, .int .i64 0, .string ⟨#[]⟩, .slice (some ⟨w9.heap.size, 0, none⟩) 4 4] rfl rfl (fun j u hu => by rw [add_flat, Nat.zero_add]; exact (laid_row (w := w9) (rcells (k : Int) s e 0) [.int .i64 3, .int .i64 0, .string ⟨#[]⟩, .slice (some ⟨w9.heap.size, 0, none⟩) 4 4] 68).2.1.cell hu) (by intro u hu; simp at hu; rcases hu with rfl | rfl | rfl | rfl <;> rfl) (by omega) (by unfold maxLen; omega) (by omega) (by have := HT9.out.vb.lt; simp; omega) _ rfl ?_
            intro g cap w10 hown10 hg10 ho10 hlt10
            obtain ⟨hnext, hstc⟩ := HT9.out.next hlt hkq HX.out hs0 (m := 0) rfl rfl hown10 hg10 ho10
            have HNX := Lib.hid hnext
            obtain ⟨y1, y2, y3⟩ := TT.facts hstc.1
            obtain ⟨z1, z2⟩ := hstc.2.at2 hlt HX.out
            clear hown10 hg10 ho10 hnext hstc
            refine hK.out _ _ ?_ (fun hHeld => ?_)
            · exact ⟨z1, z2⟩
            clear hK K
            try simp only [Act.put, List.setIfInBounds_toArray, List.set_cons_zero, List.set_cons_succ]
            refine wpAnyH_take (i := 20) (oi := ⟨_, _, _, _, _, _⟩) (v := ?_) rfl (by kernel_rfl) (by kernel_rfl) (by kernel_rfl) (fun _ _ _ h => h) (Or.inl ⟨by rfl, ?_⟩) (by assumption) ?_
            rotate_left
            · intro w hSw; (try dsimp only at hSw); go_simp <;> with_reducible rfl
            try simp only [Act.put, List.setIfInBounds_toArray, List.set_cons_zero, List.set_cons_succ]
            refine wpAnyH_ready (rs := [21]) (by kernel_rfl) (by simp) ?_
            refine AllReadyH.cons (o := ⟨_, _, _, _, _, _⟩) rfl (fun K hK => ?_) AllReadyH.nil
            obtain ⟨u1, u2⟩ := HNX.out.tb.at2 hlt HX.out
            go_simp
            refine hK.out _ _ ?_ (fun hHeld => ?_)
            · exact ⟨u1, u2⟩
            clear hK K
            try simp only [Act.put, List.setIfInBounds_toArray, List.set_cons_zero, List.set_cons_succ]
            refine wpAnyH_done (by kernel_rfl) ?_ _
            go_wp2_with fail
            exact ⟨⟨k + 1, _, _, by go_num, by omega, HNX.out⟩, by simp [intOf]; omega⟩
          · go_simp; go_at_call 28; refine (rnumber_c _ _).mono ?_; rintro en w9 ⟨rfl, hb9⟩; have HT9 : Hid (TT w q v w9 k xs) := Lib.hid (HT9.out.on hb9); obtain ⟨d1, d2, d4, d5, d6⟩ := HT9.out.at_ hlt HX.out; clear hb9
            refine hK.out _ _ ?_ (fun hHeld => ?_)
            · exact ⟨d1, d2⟩
            clear hK K
            try simp only [Act.put, List.setIfInBounds_toArray, List.set_cons_zero, List.set_cons_succ]
            refine wpAnyH_ready (rs := [1, 8]) (by kernel_rfl) (by simp) ?_
            refine AllReadyH.cons (o := ⟨_, _, _, _, _, _⟩) rfl (fun K hK => ?_) (AllReadyH.cons (o := ⟨_, _, _, _, _, _⟩) rfl (fun K hK => ?_) AllReadyH.nil)
            · go_simp
              refine hK.out _ _ ?_ (fun hHeld => ?_)
              · exact ⟨d1, d2⟩
              clear hK K
              try simp only [Act.put, List.setIfInBounds_toArray, List.set_cons_zero, List.set_cons_succ]
              refine wpAnyH_ready (rs := [8]) (by kernel_rfl) (by simp) ?_
              refine AllReadyH.cons (o := ⟨_, _, _, _, _, _⟩) rfl (fun K hK => ?_) AllReadyH.nil
              go_simp; go_at_call 28; refine (rnumber_c _ _).mono ?_; rintro en w9 ⟨rfl, hb9⟩; have HT9 : Hid (TT w q v w9 k xs) := Lib.hid (HT9.out.on hb9); obtain ⟨d1, d2, d4, d5, d6⟩ := HT9.out.at_ hlt HX.out; clear hb9
              refine hK.out _ _ ?_ (fun hHeld => ?_)
              · exact ⟨d1, d2⟩
              clear hK K
              try simp only [Act.put, List.setIfInBounds_toArray, List.set_cons_zero, List.set_cons_succ]
              refine wpAnyH_ready (rs := [13]) (by kernel_rfl) (by simp) ?_
              refine AllReadyH.cons (o := ⟨_, _, _, _, _, _⟩) rfl (fun K hK => ?_) AllReadyH.nil
              go_simp; go_at_call 28; refine (rnumber_c _ _).mono ?_; rintro en w9 ⟨rfl, hb9⟩; have HT9 : Hid (TT w q v w9 k xs) := Lib.hid (HT9.out.on hb9); obtain ⟨d1, d2, d4, d5, d6⟩ := HT9.out.at_ hlt HX.out; clear hb9
              refine hK.out _ _ ?_ (fun hHeld => ?_)
              · exact ⟨d1, d2⟩
              clear hK K
              try simp only [Act.put, List.setIfInBounds_toArray, List.set_cons_zero, List.set_cons_succ]
              refine wpAnyH_ready (rs := [15]) (by kernel_rfl) (by simp) ?_
              refine AllReadyH.cons (o := ⟨_, _, _, _, _, _⟩) rfl (fun K hK => ?_) AllReadyH.nil
              go_simp; go_at_call 28; refine (rnumber_c _ _).mono ?_; rintro en w9 ⟨rfl, hb9⟩; have HT9 : Hid (TT w q v w9 k xs) := Lib.hid (HT9.out.on hb9); obtain ⟨d1, d2, d4, d5, d6⟩ := HT9.out.at_ hlt HX.out; clear hb9
              refine hK.out _ _ ?_ (fun hHeld => ?_)
              · exact ⟨d1, d2⟩
              clear hK K
              try simp only [Act.put, List.setIfInBounds_toArray, List.set_cons_zero, List.set_cons_succ]
              refine wpAnyH_ready (rs := [16]) (by kernel_rfl) (by simp) ?_
              refine AllReadyH.cons (o := ⟨_, _, _, _, _, _⟩) rfl (fun K hK => ?_) AllReadyH.nil
              have HTA : Hid (TT w q v (w9.alloc (.cells #[.int .i64 1, .int .i64 (k : Int), .string ⟨#[]⟩, .slice none 0 0, .int .i64 1, .int .i64 s, .string ⟨#[]⟩, .slice none 0 0, .int .i64 1, .int .i64 e, .string ⟨#[]⟩, .slice none 0 0, .int .i64 1, .int .i64 0, .string ⟨#[]⟩, .slice none 0 0] 68)) k xs) := Lib.hid (HT9.out.on ((Below.refl _ w9).alloc (Nat.le_refl _) _))
              obtain ⟨d1, d2, d4, d5, d6⟩ := HTA.out.at_ hlt HX.out
              go_simp
              refine hK.out _ _ ?_ (fun hHeld => ?_)
              · exact ⟨d1, d2⟩
              clear hK K
              try simp only [Act.put, List.setIfInBounds_toArray, List.set_cons_zero, List.set_cons_succ]
              refine wpAnyH_take (i := 17) (oi := ⟨_, _, _, _, _, _⟩) (v := ?_) rfl (by kernel_rfl) (by kernel_rfl) (by kernel_rfl) (fun _ _ _ h => h) (Or.inl ⟨by rfl, ?_⟩) (by assumption) ?_
              rotate_left
              · intro w hSw; (try dsimp only at hSw); go_simp <;> with_reducible rfl
              try simp only [Act.put, List.setIfInBounds_toArray, List.set_cons_zero, List.set_cons_succ]
              refine wpAnyH_ready (rs := [18]) (by kernel_rfl) (by simp) ?_
              refine AllReadyH.cons (o := ⟨_, _, _, _, _, _⟩) rfl (fun K hK => ?_) AllReadyH.nil
              have HTB : Hid (TT w q v ((w9.alloc (.cells #[.int .i64 1, .int .i64 (k : Int), .string ⟨#[]⟩, .slice none 0 0, .int .i64 1, .int .i64 s, .string ⟨#[]⟩, .slice none 0 0, .int .i64 1, .int .i64 e, .string ⟨#[]⟩, .slice none 0 0, .int .i64 1, .int .i64 0, .string ⟨#[]⟩, .slice none 0 0] 68)).alloc (.cells #[.int .i64 3, .int .i64 0, .string ⟨#[]⟩, .slice (some ⟨w9.heap.size, 0, none⟩) 4 4] 68)) k xs) := Lib.hid (HTA.out.on ((Below.refl _ _).alloc (Nat.le_refl _) _))
              obtain ⟨d1, d2, d4, d5, d6⟩ := HTB.out.at_ hlt HX.out
              go_simp
              refine hK.out _ _ ?_ (fun hHeld => ?_)
              · exact ⟨d1, d2⟩
              clear hK K
              try simp only [Act.put, List.setIfInBounds_toArray, List.set_cons_zero, List.set_cons_succ]
              refine wpAnyH_ready (rs := [19]) (by kernel_rfl) (by simp) ?_
              refine AllReadyH.cons (o := ⟨_, _, _, _, _, _⟩) rfl (fun K hK => ?_) AllReadyH.nil
              refine step_append_lies _ rfl (.tmp 23) (.tmp 40) 66 rfl (w.heap.size + 2) 68 i0 _ 4 56 Tryd.underlying66 hi hz0 hz1 hz2 rfl (by decide) v _ xs rfl HTB.out.own ⟨w9.heap.size + 1, 0, none⟩ 1 1 [.int .i64 3, .int .i64 0, .string ⟨#[]⟩, .slice (some ⟨w9.heap.size, 0, none⟩) 4 4] rfl rfl (fun j u hu => by rw [add_flat, Nat.zero_add]; exact (laid_row (w := w9) (rcells (k : Int) s e 0) [.int .i64 3, .int .i64 0, .string ⟨#[]⟩, .slice (some ⟨w9.heap.size, 0, none⟩) 4 4] 68).2.1.cell hu) (by intro u hu; simp at hu; rcases hu with rfl | rfl | rfl | rfl <;> rfl) (by omega) (by unfold maxLen; omega) (by omega) (by have := HT9.out.vb.lt; simp; omega) _ rfl ?_
              intro g cap w10 hown10 hg10 ho10 hlt10
              obtain ⟨hnext, hstc⟩ := HT9.out.next hlt hkq HX.out hs0 (m := 0) rfl rfl hown10 hg10 ho10
              have HNX := Lib.hid hnext
              obtain ⟨y1, y2, y3⟩ := TT.facts hstc.1
              obtain ⟨z1, z2⟩ := hstc.2.at2 hlt HX.out
              clear hown10 hg10 ho10 hnext hstc
              refine hK.out _ _ ?_ (fun hHeld => ?_)
              · exact ⟨z1, z2⟩
              clear hK K
              try simp only [Act.put, List.setIfInBounds_toArray, List.set_cons_zero, List.set_cons_succ]
              refine wpAnyH_take (i := 20) (oi := ⟨_, _, _, _, _, _⟩) (v := ?_) rfl (by kernel_rfl) (by kernel_rfl) (by kernel_rfl) (fun _ _ _ h => h) (Or.inl ⟨by rfl, ?_⟩) (by assumption) ?_
              rotate_left
              · intro w hSw; (try dsimp only at hSw); go_simp <;> with_reducible rfl
              try simp only [Act.put, List.setIfInBounds_toArray, List.set_cons_zero, List.set_cons_succ]
              refine wpAnyH_ready (rs := [21]) (by kernel_rfl) (by simp) ?_
              refine AllReadyH.cons (o := ⟨_, _, _, _, _, _⟩) rfl (fun K hK => ?_) AllReadyH.nil
              obtain ⟨u1, u2⟩ := HNX.out.tb.at2 hlt HX.out
              go_simp
              refine hK.out _ _ ?_ (fun hHeld => ?_)
              · exact ⟨u1, u2⟩
              clear hK K
              try simp only [Act.put, List.setIfInBounds_toArray, List.set_cons_zero, List.set_cons_succ]
              refine wpAnyH_done (by kernel_rfl) ?_ _
              go_wp2_with fail
              exact ⟨⟨k + 1, _, _, by go_num, by omega, HNX.out⟩, by simp [intOf]; omega⟩
            · go_simp; go_at_call 28; refine (rnumber_c _ _).mono ?_; rintro en w9 ⟨rfl, hb9⟩; have HT9 : Hid (TT w q v w9 k xs) := Lib.hid (HT9.out.on hb9); obtain ⟨d1, d2, d4, d5, d6⟩ := HT9.out.at_ hlt HX.out; clear hb9
              refine hK.out _ _ ?_ (fun hHeld => ?_)
              · exact ⟨d1, d2⟩
              clear hK K
              try simp only [Act.put, List.setIfInBounds_toArray, List.set_cons_zero, List.set_cons_succ]
              refine wpAnyH_ready (rs := [1, 13]) (by kernel_rfl) (by simp) ?_
              refine AllReadyH.cons (o := ⟨_, _, _, _, _, _⟩) rfl (fun K hK => ?_) (AllReadyH.cons (o := ⟨_, _, _, _, _, _⟩) rfl (fun K hK => ?_) AllReadyH.nil)
              · go_simp
                refine hK.out _ _ ?_ (fun hHeld => ?_)
                · exact ⟨d1, d2⟩
                clear hK K
                try simp only [Act.put, List.setIfInBounds_toArray, List.set_cons_zero, List.set_cons_succ]
                refine wpAnyH_ready (rs := [13]) (by kernel_rfl) (by simp) ?_
                refine AllReadyH.cons (o := ⟨_, _, _, _, _, _⟩) rfl (fun K hK => ?_) AllReadyH.nil
                go_simp; go_at_call 28; refine (rnumber_c _ _).mono ?_; rintro en w9 ⟨rfl, hb9⟩; have HT9 : Hid (TT w q v w9 k xs) := Lib.hid (HT9.out.on hb9); obtain ⟨d1, d2, d4, d5, d6⟩ := HT9.out.at_ hlt HX.out; clear hb9
                refine hK.out _ _ ?_ (fun hHeld => ?_)
                · exact ⟨d1, d2⟩
                clear hK K
                try simp only [Act.put, List.setIfInBounds_toArray, List.set_cons_zero, List.set_cons_succ]
                refine wpAnyH_ready (rs := [15]) (by kernel_rfl) (by simp) ?_
                refine AllReadyH.cons (o := ⟨_, _, _, _, _, _⟩) rfl (fun K hK => ?_) AllReadyH.nil
                go_simp; go_at_call 28; refine (rnumber_c _ _).mono ?_; rintro en w9 ⟨rfl, hb9⟩; have HT9 : Hid (TT w q v w9 k xs) := Lib.hid (HT9.out.on hb9); obtain ⟨d1, d2, d4, d5, d6⟩ := HT9.out.at_ hlt HX.out; clear hb9
                refine hK.out _ _ ?_ (fun hHeld => ?_)
                · exact ⟨d1, d2⟩
                clear hK K
                try simp only [Act.put, List.setIfInBounds_toArray, List.set_cons_zero, List.set_cons_succ]
                refine wpAnyH_ready (rs := [16]) (by kernel_rfl) (by simp) ?_
                refine AllReadyH.cons (o := ⟨_, _, _, _, _, _⟩) rfl (fun K hK => ?_) AllReadyH.nil
                have HTA : Hid (TT w q v (w9.alloc (.cells #[.int .i64 1, .int .i64 (k : Int), .string ⟨#[]⟩, .slice none 0 0, .int .i64 1, .int .i64 s, .string ⟨#[]⟩, .slice none 0 0, .int .i64 1, .int .i64 e, .string ⟨#[]⟩, .slice none 0 0, .int .i64 1, .int .i64 0, .string ⟨#[]⟩, .slice none 0 0] 68)) k xs) := Lib.hid (HT9.out.on ((Below.refl _ w9).alloc (Nat.le_refl _) _))
                obtain ⟨d1, d2, d4, d5, d6⟩ := HTA.out.at_ hlt HX.out
                go_simp
                refine hK.out _ _ ?_ (fun hHeld => ?_)
                · exact ⟨d1, d2⟩
                clear hK K
                try simp only [Act.put, List.setIfInBounds_toArray, List.set_cons_zero, List.set_cons_succ]
                refine wpAnyH_take (i := 17) (oi := ⟨_, _, _, _, _, _⟩) (v := ?_) rfl (by kernel_rfl) (by kernel_rfl) (by kernel_rfl) (fun _ _ _ h => h) (Or.inl ⟨by rfl, ?_⟩) (by assumption) ?_
                rotate_left
                · intro w hSw; (try dsimp only at hSw); go_simp <;> with_reducible rfl
                try simp only [Act.put, List.setIfInBounds_toArray, List.set_cons_zero, List.set_cons_succ]
                refine wpAnyH_ready (rs := [18]) (by kernel_rfl) (by simp) ?_
                refine AllReadyH.cons (o := ⟨_, _, _, _, _, _⟩) rfl (fun K hK => ?_) AllReadyH.nil
                have HTB : Hid (TT w q v ((w9.alloc (.cells #[.int .i64 1, .int .i64 (k : Int), .string ⟨#[]⟩, .slice none 0 0, .int .i64 1, .int .i64 s, .string ⟨#[]⟩, .slice none 0 0, .int .i64 1, .int .i64 e, .string ⟨#[]⟩, .slice none 0 0, .int .i64 1, .int .i64 0, .string ⟨#[]⟩, .slice none 0 0] 68)).alloc (.cells #[.int .i64 3, .int .i64 0, .string ⟨#[]⟩, .slice (some ⟨w9.heap.size, 0, none⟩) 4 4] 68)) k xs) := Lib.hid (HTA.out.on ((Below.refl _ _).alloc (Nat.le_refl _) _))
                obtain ⟨d1, d2, d4, d5, d6⟩ := HTB.out.at_ hlt HX.out
                go_simp
                refine hK.out _ _ ?_ (fun hHeld => ?_)
                · exact ⟨d1, d2⟩
                clear hK K
                try simp only [Act.put, List.setIfInBounds_toArray, List.set_cons_zero, List.set_cons_succ]
                refine wpAnyH_ready (rs := [19]) (by kernel_rfl) (by simp) ?_
                refine AllReadyH.cons (o := ⟨_, _, _, _, _, _⟩) rfl (fun K hK => ?_) AllReadyH.nil
                refine step_append_lies _ rfl (.tmp 23) (.tmp 40) 66 rfl (w.heap.size + 2) 68 i0 _ 4 56 Tryd.underlying66 hi hz0 hz1 hz2 rfl (by decide) v _ xs rfl HTB.out.own ⟨w9.heap.size + 1, 0, none⟩ 1 1 [.int .i64 3, .int .i64 0, .string ⟨#[]⟩, .slice (some ⟨w9.heap.size, 0, none⟩) 4 4] rfl rfl (fun j u hu => by rw [add_flat, Nat.zero_add]; exact (laid_row (w := w9) (rcells (k : Int) s e 0) [.int .i64 3, .int .i64 0, .string ⟨#[]⟩, .slice (some ⟨w9.heap.size, 0, none⟩) 4 4] 68).2.1.cell hu) (by intro u hu; simp at hu; rcases hu with rfl | rfl | rfl | rfl <;> rfl) (by omega) (by unfold maxLen; omega) (by omega) (by have := HT9.out.vb.lt; simp; omega) _ rfl ?_
                intro g cap w10 hown10 hg10 ho10 hlt10
                obtain ⟨hnext, hstc⟩ := HT9.out.next hlt hkq HX.out hs0 (m := 0) rfl rfl hown10 hg10 ho10
                have HNX := Lib.hid hnext
                obtain ⟨y1, y2, y3⟩ := TT.facts hstc.1
                obtain ⟨z1, z2⟩ := hstc.2.at2 hlt HX.out
                clear hown10 hg10 ho10 hnext hstc
                refine hK.out _ _ ?_ (fun hHeld => ?_)
                · exact ⟨z1, z2⟩
                clear hK K
                try simp only [Act.put, List.setIfInBounds_toArray, List.set_cons_zero, List.set_cons_succ]
                refine wpAnyH_take (i := 20) (oi := ⟨_, _, _, _, _, _⟩) (v := ?_) rfl (by kernel_rfl) (by kernel_rfl) (by kernel_rfl) (fun _ _ _ h => h) (Or.inl ⟨by rfl, ?_⟩) (by assumption) ?_
                rotate_left
                · intro w hSw; (try dsimp only at hSw); go_simp <;> with_reducible rfl
                try simp only [Act.put, List.setIfInBounds_toArray, List.set_cons_zero, List.set_cons_succ]
                refine wpAnyH_ready (rs := [21]) (by kernel_rfl) (by simp) ?_
                refine AllReadyH.cons (o := ⟨_, _, _, _, _, _⟩) rfl (fun K hK => ?_) AllReadyH.nil
                obtain ⟨u1, u2⟩ := HNX.out.tb.at2 hlt HX.out
                go_simp
                refine hK.out _ _ ?_ (fun hHeld => ?_)
                · exact ⟨u1, u2⟩
                clear hK K
                try simp only [Act.put, List.setIfInBounds_toArray, List.set_cons_zero, List.set_cons_succ]
                refine wpAnyH_done (by kernel_rfl) ?_ _
                go_wp2_with fail
                exact ⟨⟨k + 1, _, _, by go_num, by omega, HNX.out⟩, by simp [intOf]; omega⟩
              · go_simp; go_at_call 28; refine (rnumber_c _ _).mono ?_; rintro en w9 ⟨rfl, hb9⟩; have HT9 : Hid (TT w q v w9 k xs) := Lib.hid (HT9.out.on hb9); obtain ⟨d1, d2, d4, d5, d6⟩ := HT9.out.at_ hlt HX.out; clear hb9
                refine hK.out _ _ ?_ (fun hHeld => ?_)
                · exact ⟨d1, d2⟩
                clear hK K
                try simp only [Act.put, List.setIfInBounds_toArray, List.set_cons_zero, List.set_cons_succ]
                refine wpAnyH_ready (rs := [1, 15]) (by kernel_rfl) (by simp) ?_
                refine AllReadyH.cons (o := ⟨_, _, _, _, _, _⟩) rfl (fun K hK => ?_) (AllReadyH.cons (o := ⟨_, _, _, _, _, _⟩) rfl (fun K hK => ?_) AllReadyH.nil)
                · go_simp
                  refine hK.out _ _ ?_ (fun hHeld => ?_)
                  · exact ⟨d1, d2⟩
                  clear hK K
                  try simp only [Act.put, List.setIfInBounds_toArray, List.set_cons_zero, List.set_cons_succ]
                  refine wpAnyH_ready (rs := [15]) (by kernel_rfl) (by simp) ?_
                  refine AllReadyH.cons (o := ⟨_, _, _, _, _, _⟩) rfl (fun K hK => ?_) AllReadyH.nil
                  go_simp; go_at_call 28; refine (rnumber_c _ _).mono ?_; rintro en w9 ⟨rfl, hb9⟩; have HT9 : Hid (TT w q v w9 k xs) := Lib.hid (HT9.out.on hb9); obtain ⟨d1, d2, d4, d5, d6⟩ := HT9.out.at_ hlt HX.out; clear hb9
                  refine hK.out _ _ ?_ (fun hHeld => ?_)
                  · exact ⟨d1, d2⟩
                  clear hK K
                  try simp only [Act.put, List.setIfInBounds_toArray, List.set_cons_zero, List.set_cons_succ]
                  refine wpAnyH_ready (rs := [16]) (by kernel_rfl) (by simp) ?_
                  refine AllReadyH.cons (o := ⟨_, _, _, _, _, _⟩) rfl (fun K hK => ?_) AllReadyH.nil
                  have HTA : Hid (TT w q v (w9.alloc (.cells #[.int .i64 1, .int .i64 (k : Int), .string ⟨#[]⟩, .slice none 0 0, .int .i64 1, .int .i64 s, .string ⟨#[]⟩, .slice none 0 0, .int .i64 1, .int .i64 e, .string ⟨#[]⟩, .slice none 0 0, .int .i64 1, .int .i64 0, .string ⟨#[]⟩, .slice none 0 0] 68)) k xs) := Lib.hid (HT9.out.on ((Below.refl _ w9).alloc (Nat.le_refl _) _))
                  obtain ⟨d1, d2, d4, d5, d6⟩ := HTA.out.at_ hlt HX.out
                  go_simp
                  refine hK.out _ _ ?_ (fun hHeld => ?_)
                  · exact ⟨d1, d2⟩
                  clear hK K
                  try simp only [Act.put, List.setIfInBounds_toArray, List.set_cons_zero, List.set_cons_succ]
                  refine wpAnyH_take (i := 17) (oi := ⟨_, _, _, _, _, _⟩) (v := ?_) rfl (by kernel_rfl) (by kernel_rfl) (by kernel_rfl) (fun _ _ _ h => h) (Or.inl ⟨by rfl, ?_⟩) (by assumption) ?_
                  rotate_left
                  · intro w hSw; (try dsimp only at hSw); go_simp <;> with_reducible rfl
                  try simp only [Act.put, List.setIfInBounds_toArray, List.set_cons_zero, List.set_cons_succ]
                  refine wpAnyH_ready (rs := [18]) (by kernel_rfl) (by simp) ?_
                  refine AllReadyH.cons (o := ⟨_, _, _, _, _, _⟩) rfl (fun K hK => ?_) AllReadyH.nil
                  have HTB : Hid (TT w q v ((w9.alloc (.cells #[.int .i64 1, .int .i64 (k : Int), .string ⟨#[]⟩, .slice none 0 0, .int .i64 1, .int .i64 s, .string ⟨#[]⟩, .slice none 0 0, .int .i64 1, .int .i64 e, .string ⟨#[]⟩, .slice none 0 0, .int .i64 1, .int .i64 0, .string ⟨#[]⟩, .slice none 0 0] 68)).alloc (.cells #[.int .i64 3, .int .i64 0, .string ⟨#[]⟩, .slice (some ⟨w9.heap.size, 0, none⟩) 4 4] 68)) k xs) := Lib.hid (HTA.out.on ((Below.refl _ _).alloc (Nat.le_refl _) _))
                  obtain ⟨d1, d2, d4, d5, d6⟩ := HTB.out.at_ hlt HX.out
                  go_simp
                  refine hK.out _ _ ?_ (fun hHeld => ?_)
                  · exact ⟨d1, d2⟩
                  clear hK K
                  try simp only [Act.put, List.setIfInBounds_toArray, List.set_cons_zero, List.set_cons_succ]
                  refine wpAnyH_ready (rs := [19]) (by kernel_rfl) (by simp) ?_
                  refine AllReadyH.cons (o := ⟨_, _, _, _, _, _⟩) rfl (fun K hK => ?_) AllReadyH.nil
                  refine step_append_lies _ rfl (.tmp 23) (.tmp 40) 66 rfl (w.heap.size + 2) 68 i0 _ 4 56 Tryd.underlying66 hi hz0 hz1 hz2 rfl (by decide) v _ xs rfl HTB.out.own ⟨w9.heap.size + 1, 0, none⟩ 1 1 [.int .i64 3, .int .i64 0, .string ⟨#[]⟩, .slice (some ⟨w9.heap.size, 0, none⟩) 4 4] rfl rfl (fun j u hu => by rw [add_flat, Nat.zero_add]; exact (laid_row (w := w9) (rcells (k : Int) s e 0) [.int .i64 3, .int .i64 0, .string ⟨#[]⟩, .slice (some ⟨w9.heap.size, 0, none⟩) 4 4] 68).2.1.cell hu) (by intro u hu; simp at hu; rcases hu with rfl | rfl | rfl | rfl <;> rfl) (by omega) (by unfold maxLen; omega) (by omega) (by have := HT9.out.vb.lt; simp; omega) _ rfl ?_
                  intro g cap w10 hown10 hg10 ho10 hlt10
                  obtain ⟨hnext, hstc⟩ := HT9.out.next hlt hkq HX.out hs0 (m := 0) rfl rfl hown10 hg10 ho10
                  have HNX := Lib.hid hnext
                  obtain ⟨y1, y2, y3⟩ := TT.facts hstc.1
                  obtain ⟨z1, z2⟩ := hstc.2.at2 hlt HX.out
                  clear hown10 hg10 ho10 hnext hstc
                  refine hK.out _ _ ?_ (fun hHeld => ?_)
                  · exact ⟨z1, z2⟩
                  clear hK K
                  try simp only [Act.put, List.setIfInBounds_toArray, List.set_cons_zero, List.set_cons_succ]
                  refine wpAnyH_take (i := 20) (oi := ⟨_, _, _, _, _, _⟩) (v := ?_) rfl (by kernel_rfl) (by kernel_rfl) (by kernel_rfl) (fun _ _ _ h => h) (Or.inl ⟨by rfl, ?_⟩) (by assumption) ?_
                  rotate_left
                  · intro w hSw; (try dsimp only at hSw); go_simp <;> with_reducible rfl
                  try simp only [Act.put, List.setIfInBounds_toArray, List.set_cons_zero, List.set_cons_succ]
                  refine wpAnyH_ready (rs := [21]) (by kernel_rfl) (by simp) ?_
                  refine AllReadyH.cons (o := ⟨_, _, _, _, _, _⟩) rfl (fun K hK => ?_) AllReadyH.nil
                  obtain ⟨u1, u2⟩ := HNX.out.tb.at2 hlt HX.out
                  go_simp
                  refine hK.out _ _ ?_ (fun hHeld => ?_)
                  · exact ⟨u1, u2⟩
                  clear hK K
                  try simp only [Act.put, List.setIfInBounds_toArray, List.set_cons_zero, List.set_cons_succ]
                  refine wpAnyH_done (by kernel_rfl) ?_ _
                  go_wp2_with fail
                  exact ⟨⟨k + 1, _, _, by go_num, by omega, HNX.out⟩, by simp [intOf]; omega⟩
                · go_simp; go_at_call 28; refine (rnumber_c _ _).mono ?_; rintro en w9 ⟨rfl, hb9⟩; have HT9 : Hid (TT w q v w9 k xs) := Lib.hid (HT9.out.on hb9); obtain ⟨d1, d2, d4, d5, d6⟩ := HT9.out.at_ hlt HX.out; clear hb9
                  refine hK.out _ _ ?_ (fun hHeld => ?_)
                  · exact ⟨d1, d2⟩
                  clear hK K
                  try simp only [Act.put, List.setIfInBounds_toArray, List.set_cons_zero, List.set_cons_succ]
                  refine wpAnyH_ready (rs := [1, 16]) (by kernel_rfl) (by simp) ?_
                  refine AllReadyH.cons (o := ⟨_, _, _, _, _, _⟩) rfl (fun K hK => ?_) (AllReadyH.cons (o := ⟨_, _, _, _, _, _⟩) rfl (fun K hK => ?_) AllReadyH.nil)
                  · go_simp
                    refine hK.out _ _ ?_ (fun hHeld => ?_)
                    · exact ⟨d1, d2⟩
                    clear hK K
                    try simp only [Act.put, List.setIfInBounds_toArray, List.set_cons_zero, List.set_cons_succ]
                    refine wpAnyH_ready (rs := [16]) (by kernel_rfl) (by simp) ?_
                    refine AllReadyH.cons (o := ⟨_, _, _, _, _, _⟩) rfl (fun K hK => ?_) AllReadyH.nil
                    have HTA : Hid (TT w q v (w9.alloc (.cells #[.int .i64 1, .int .i64 (k : Int), .string ⟨#[]⟩, .slice none 0 0, .int .i64 1, .int .i64 s, .string ⟨#[]⟩, .slice none 0 0, .int .i64 1, .int .i64 e, .string ⟨#[]⟩, .slice none 0 0, .int .i64 1, .int .i64 0, .string ⟨#[]⟩, .slice none 0 0] 68)) k xs) := Lib.hid (HT9.out.on ((Below.refl _ w9).alloc (Nat.le_refl _) _))
                    obtain ⟨d1, d2, d4, d5, d6⟩ := HTA.out.at_ hlt HX.out
                    go_simp
                    refine hK.out _ _ ?_ (fun hHeld => ?_)
                    · exact ⟨d1, d2⟩
                    clear hK K
                    try simp only [Act.put, List.setIfInBounds_toArray, List.set_cons_zero, List.set_cons_succ]
                    refine wpAnyH_take (i := 17) (oi := ⟨_, _, _, _, _, _⟩) (v := ?_) rfl (by kernel_rfl) (by kernel_rfl) (by kernel_rfl) (fun _ _ _ h => h) (Or.inl ⟨by rfl, ?_⟩) (by assumption) ?_
                    rotate_left
                    · intro w hSw; (try dsimp only at hSw); go_simp <;> with_reducible rfl
                    try simp only [Act.put, List.setIfInBounds_toArray, List.set_cons_zero, List.set_cons_succ]
                    refine wpAnyH_ready (rs := [18]) (by kernel_rfl) (by simp) ?_
                    refine AllReadyH.cons (o := ⟨_, _, _, _, _, _⟩) rfl (fun K hK => ?_) AllReadyH.nil
                    have HTB : Hid (TT w q v ((w9.alloc (.cells #[.int .i64 1, .int .i64 (k : Int), .string ⟨#[]⟩, .slice none 0 0, .int .i64 1, .int .i64 s, .string ⟨#[]⟩, .slice none 0 0, .int .i64 1, .int .i64 e, .string ⟨#[]⟩, .slice none 0 0, .int .i64 1, .int .i64 0, .string ⟨#[]⟩, .slice none 0 0] 68)).alloc (.cells #[.int .i64 3, .int .i64 0, .string ⟨#[]⟩, .slice (some ⟨w9.heap.size, 0, none⟩) 4 4] 68)) k xs) := Lib.hid (HTA.out.on ((Below.refl _ _).alloc (Nat.le_refl _) _))
                    obtain ⟨d1, d2, d4, d5, d6⟩ := HTB.out.at_ hlt HX.out
                    go_simp
                    refine hK.out _ _ ?_ (fun hHeld => ?_)
                    · exact ⟨d1, d2⟩
                    clear hK K
                    try simp only [Act.put, List.setIfInBounds_toArray, List.set_cons_zero, List.set_cons_succ]
                    refine wpAnyH_ready (rs := [19]) (by kernel_rfl) (by simp) ?_
                    refine AllReadyH.cons (o := ⟨_, _, _, _, _, _⟩) rfl (fun K hK => ?_) AllReadyH.nil
                    refine step_append_lies _ rfl (.tmp 23) (.tmp 40) 66 rfl (w.heap.size + 2) 68 i0 _ 4 56 Tryd.underlying66 hi hz0 hz1 hz2 rfl (by decide) v _ xs rfl HTB.out.own ⟨w9.heap.size + 1, 0, none⟩ 1 1 [.int .i64 3, .int .i64 0, .string ⟨#[]⟩, .slice (some ⟨w9.heap.size, 0, none⟩) 4 4] rfl rfl (fun j u hu => by rw [add_flat, Nat.zero_add]; exact (laid_row (w := w9) (rcells (k : Int) s e 0) [.int .i64 3, .int .i64 0, .string ⟨#[]⟩, .slice (some ⟨w9.heap.size, 0, none⟩) 4 4] 68).2.1.cell hu) (by intro u hu; simp at hu; rcases hu with rfl | rfl | rfl | rfl <;> rfl) (by omega) (by unfold maxLen; omega) (by omega) (by have := HT9.out.vb.lt; simp; omega) _ rfl ?_
                    intro g cap w10 hown10 hg10 ho10 hlt10
                    obtain ⟨hnext, hstc⟩ := HT9.out.next hlt hkq HX.out hs0 (m := 0) rfl rfl hown10 hg10 ho10
                    have HNX := Lib.hid hnext
                    obtain ⟨y1, y2, y3⟩ := TT.facts hstc.1
                    obtain ⟨z1, z2⟩ := hstc.2.at2 hlt HX.out
                    clear hown10 hg10 ho10 hnext hstc
                    refine hK.out _ _ ?_ (fun hHeld => ?_)
                    · exact ⟨z1, z2⟩
                    clear hK K
                    try simp only [Act.put, List.setIfInBounds_toArray, List.set_cons_zero, List.set_cons_succ]
                    refine wpAnyH_take (i := 20) (oi := ⟨_, _, _, _, _, _⟩) (v := ?_) rfl (by kernel_rfl) (by kernel_rfl) (by kernel_rfl) (fun _ _ _ h => h) (Or.inl ⟨by rfl, ?_⟩) (by assumption) ?_
                    rotate_left
                    · intro w hSw; (try dsimp only at hSw); go_simp <;> with_reducible rfl
                    try simp only [Act.put, List.setIfInBounds_toArray, List.set_cons_zero, List.set_cons_succ]
                    refine wpAnyH_ready (rs := [21]) (by kernel_rfl) (by simp) ?_
                    refine AllReadyH.cons (o := ⟨_, _, _, _, _, _⟩) rfl (fun K hK => ?_) AllReadyH.nil
                    obtain ⟨u1, u2⟩ := HNX.out.tb.at2 hlt HX.out
                    go_simp
                    refine hK.out _ _ ?_ (fun hHeld => ?_)
                    · exact ⟨u1, u2⟩
                    clear hK K
                    try simp only [Act.put, List.setIfInBounds_toArray, List.set_cons_zero, List.set_cons_succ]
                    refine wpAnyH_done (by kernel_rfl) ?_ _
                    go_wp2_with fail
                    exact ⟨⟨k + 1, _, _, by go_num, by omega, HNX.out⟩, by simp [intOf]; omega⟩
                  · have HTA : Hid (TT w q v (w9.alloc (.cells #[.int .i64 1, .int .i64 (k : Int), .string ⟨#[]⟩, .slice none 0 0, .int .i64 1, .int .i64 s, .string ⟨#[]⟩, .slice none 0 0, .int .i64 1, .int .i64 e, .string ⟨#[]⟩, .slice none 0 0, .int .i64 1, .int .i64 0, .string ⟨#[]⟩, .slice none 0 0] 68)) k xs) := Lib.hid (HT9.out.on ((Below.refl _ w9).alloc (Nat.le_refl _) _))
                    obtain ⟨d1, d2, d4, d5, d6⟩ := HTA.out.at_ hlt HX.out
                    go_simp
                    refine hK.out _ _ ?_ (fun hHeld => ?_)
                    · exact ⟨d1, d2⟩
                    clear hK K
                    try simp only [Act.put, List.setIfInBounds_toArray, List.set_cons_zero, List.set_cons_succ]
                    refine wpAnyH_take (i := 17) (oi := ⟨_, _, _, _, _, _⟩) (v := ?_) rfl (by kernel_rfl) (by kernel_rfl) (by kernel_rfl) (fun _ _ _ h => h) (Or.inl ⟨by rfl, ?_⟩) (by assumption) ?_
                    rotate_left
                    · intro w hSw; (try dsimp only at hSw); go_simp <;> with_reducible rfl
                    try simp only [Act.put, List.setIfInBounds_toArray, List.set_cons_zero, List.set_cons_succ]
                    refine wpAnyH_ready (rs := [1, 18]) (by kernel_rfl) (by simp) ?_
                    refine AllReadyH.cons (o := ⟨_, _, _, _, _, _⟩) rfl (fun K hK => ?_) (AllReadyH.cons (o := ⟨_, _, _, _, _, _⟩) rfl (fun K hK => ?_) AllReadyH.nil)
                    · go_simp
                      refine hK.out _ _ ?_ (fun hHeld => ?_)
                      · exact ⟨d1, d2⟩
                      clear hK K
                      try simp only [Act.put, List.setIfInBounds_toArray, List.set_cons_zero, List.set_cons_succ]
                      refine wpAnyH_ready (rs := [18]) (by kernel_rfl) (by simp) ?_
                      refine AllReadyH.cons (o := ⟨_, _, _, _, _, _⟩) rfl (fun K hK => ?_) AllReadyH.nil
                      have HTB : Hid (TT w q v ((w9.alloc (.cells #[.int .i64 1, .int .i64 (k : Int), .string ⟨#[]⟩, .slice none 0 0, .int .i64 1, .int .i64 s, .string ⟨#[]⟩, .slice none 0 0, .int .i64 1, .int .i64 e, .string ⟨#[]⟩, .slice none 0 0, .int .i64 1, .int .i64 0, .string ⟨#[]⟩, .slice none 0 0] 68)).alloc (.cells #[.int .i64 3, .int .i64 0, .string ⟨#[]⟩, .slice (some ⟨w9.heap.size, 0, none⟩) 4 4] 68)) k xs) := Lib.hid (HTA.out.on ((Below.refl _ _).alloc (Nat.le_refl _) _))
                      obtain ⟨d1, d2, d4, d5, d6⟩ := HTB.out.at_ hlt HX.out
                      go_simp
                      refine hK.out _ _ ?_ (fun hHeld => ?_)
                      · exact ⟨d1, d2⟩
                      clear hK K
                      try simp only [Act.put, List.setIfInBounds_toArray, List.set_cons_zero, List.set_cons_succ]
                      refine wpAnyH_ready (rs := [19]) (by kernel_rfl) (by simp) ?_
                      refine AllReadyH.cons (o := ⟨_, _, _, _, _, _⟩) rfl (fun K hK => ?_) AllReadyH.nil
                      refine step_append_lies _ rfl (.tmp 23) (.tmp 40) 66 rfl (w.heap.size + 2) 68 i0 _ 4 56 Tryd.underlying66 hi hz0 hz1 hz2 rfl (by decide) v _ xs rfl HTB.out.own ⟨w9.heap.size + 1, 0, none⟩ 1 1 [.int .i64 3, .int .i64 0, .string ⟨#[]⟩, .slice (some ⟨w9.heap.size, 0, none⟩) 4 4] rfl rfl (fun j u hu => by rw [add_flat, Nat.zero_add]; exact (laid_row (w := w9) (rcells (k : Int) s e 0) [.int .i64 3, .int .i64 0, .string ⟨#[]⟩, .slice (some ⟨w9.heap.size, 0, none⟩) 4 4] 68).2.1.cell hu) (by intro u hu; simp at hu; rcases hu with rfl | rfl | rfl | rfl <;> rfl) (by omega) (by unfold maxLen; omega) (by omega) (by have := HT9.out.vb.lt; simp; omega) _ rfl ?_
                      intro g cap w10 hown10 hg10 ho10 hlt10
                      obtain ⟨hnext, hstc⟩ := HT9.out.next hlt hkq HX.out hs0 (m := 0) rfl rfl hown10 hg10 ho10
                      have HNX := Lib.hid hnext
                      obtain ⟨y1, y2, y3⟩ := TT.facts hstc.1
                      obtain ⟨z1, z2⟩ := hstc.2.at2 hlt HX.out
                      clear hown10 hg10 ho10 hnext hstc
                      refine hK.out _ _ ?_ (fun hHeld => ?_)
                      · exact ⟨z1, z2⟩
                      clear hK K
                      try simp only [Act.put, List.setIfInBounds_toArray, List.set_cons_zero, List.set_cons_succ]
                      refine wpAnyH_take (i := 20) (oi := ⟨_, _, _, _, _, _⟩) (v := ?_) rfl (by kernel_rfl) (by kernel_rfl) (by kernel_rfl) (fun _ _ _ h => h) (Or.inl ⟨by rfl, ?_⟩) (by assumption) ?_
                      rotate_left
                      · intro w hSw; (try dsimp only at hSw); go_simp <;> with_reducible rfl
                      try simp only [Act.put, List.setIfInBounds_toArray, List.set_cons_zero, List.set_cons_succ]
                      refine wpAnyH_ready (rs := [21]) (by kernel_rfl) (by simp) ?_
                      refine AllReadyH.cons (o := ⟨_, _, _, _, _, _⟩) rfl (fun K hK => ?_) AllReadyH.nil
                      obtain ⟨u1, u2⟩ := HNX.out.tb.at2 hlt HX.out
                      go_simp
                      refine hK.out _ _ ?_ (fun hHeld => ?_)
                      · exact ⟨u1, u2⟩
                      clear hK K
                      try simp only [Act.put, List.setIfInBounds_toArray, List.set_cons_zero, List.set_cons_succ]
                      refine wpAnyH_done (by kernel_rfl) ?_ _
                      go_wp2_with fail
                      exact ⟨⟨k + 1, _, _, by go_num, by omega, HNX.out⟩, by simp [intOf]; omega⟩
                    · have HTB : Hid (TT w q v ((w9.alloc (.cells #[.int .i64 1, .int .i64 (k : Int), .string ⟨#[]⟩, .slice none 0 0, .int .i64 1, .int .i64 s, .string ⟨#[]⟩, .slice none 0 0, .int .i64 1, .int .i64 e, .string ⟨#[]⟩, .slice none 0 0, .int .i64 1, .int .i64 0, .string ⟨#[]⟩, .slice none 0 0] 68)).alloc (.cells #[.int .i64 3, .int .i64 0, .string ⟨#[]⟩, .slice (some ⟨w9.heap.size, 0, none⟩) 4 4] 68)) k xs) := Lib.hid (HTA.out.on ((Below.refl _ _).alloc (Nat.le_refl _) _))
                      obtain ⟨d1, d2, d4, d5, d6⟩ := HTB.out.at_ hlt HX.out
                      go_simp
                      refine hK.out _ _ ?_ (fun hHeld => ?_)
                      · exact ⟨d1, d2⟩
                      clear hK K
                      try simp only [Act.put, List.setIfInBounds_toArray, List.set_cons_zero, List.set_cons_succ]
                      refine wpAnyH_ready (rs := [1]) (by kernel_rfl) (by simp) ?_
                      refine AllReadyH.cons (o := ⟨_, _, _, _, _, _⟩) rfl (fun K hK => ?_) AllReadyH.nil
                      go_simp
                      refine hK.out _ _ ?_ (fun hHeld => ?_)
                      · exact ⟨d1, d2⟩
                      clear hK K
                      try simp only [Act.put, List.setIfInBounds_toArray, List.set_cons_zero, List.set_cons_succ]
                      refine wpAnyH_ready (rs := [19]) (by kernel_rfl) (by simp) ?_
                      refine AllReadyH.cons (o := ⟨_, _, _, _, _, _⟩) rfl (fun K hK => ?_) AllReadyH.nil
                      refine step_append_lies _ rfl (.tmp 23) (.tmp 40) 66 rfl (w.heap.size + 2) 68 i0 _ 4 56 Tryd.underlying66 hi hz0 hz1 hz2 rfl (by decide) v _ xs rfl HTB.out.own ⟨w9.heap.size + 1, 0, none⟩ 1 1 [.int .i64 3, .int .i64 0, .string ⟨#[]⟩, .slice (some ⟨w9.heap.size, 0, none⟩) 4 4] rfl rfl (fun j u hu => by rw [add_flat, Nat.zero_add]; exact (laid_row (w := w9) (rcells (k : Int) s e 0) [.int .i64 3, .int .i64 0, .string ⟨#[]⟩, .slice (some ⟨w9.heap.size, 0, none⟩) 4 4] 68).2.1.cell hu) (by intro u hu; simp at hu; rcases hu with rfl | rfl | rfl | rfl <;> rfl) (by omega) (by unfold maxLen; omega) (by omega) (by have := HT9.out.vb.lt; simp; omega) _ rfl ?_
                      intro g cap w10 hown10 hg10 ho10 hlt10
                      obtain ⟨hnext, hstc⟩ := HT9.out.next hlt hkq HX.out hs0 (m := 0) rfl rfl hown10 hg10 ho10
                      have HNX := Lib.hid hnext
                      obtain ⟨y1, y2, y3⟩ := TT.facts hstc.1
                      obtain ⟨z1, z2⟩ := hstc.2.at2 hlt HX.out
                      clear hown10 hg10 ho10 hnext hstc
                      refine hK.out _ _ ?_ (fun hHeld => ?_)
                      · exact ⟨z1, z2⟩
                      clear hK K
                      try simp only [Act.put, List.setIfInBounds_toArray, List.set_cons_zero, List.set_cons_succ]
                      refine wpAnyH_take (i := 20) (oi := ⟨_, _, _, _, _, _⟩) (v := ?_) rfl (by kernel_rfl) (by kernel_rfl) (by kernel_rfl) (fun _ _ _ h => h) (Or.inl ⟨by rfl, ?_⟩) (by assumption) ?_
                      rotate_left
                      · intro w hSw; (try dsimp only at hSw); go_simp <;> with_reducible rfl
                      try simp only [Act.put, List.setIfInBounds_toArray, List.set_cons_zero, List.set_cons_succ]
                      refine wpAnyH_ready (rs := [21]) (by kernel_rfl) (by simp) ?_
                      refine AllReadyH.cons (o := ⟨_, _, _, _, _, _⟩) rfl (fun K hK => ?_) AllReadyH.nil
                      obtain ⟨u1, u2⟩ := HNX.out.tb.at2 hlt HX.out
                      go_simp
                      refine hK.out _ _ ?_ (fun hHeld => ?_)
                      · exact ⟨u1, u2⟩
                      clear hK K
                      try simp only [Act.put, List.setIfInBounds_toArray, List.set_cons_zero, List.set_cons_succ]
                      refine wpAnyH_done (by kernel_rfl) ?_ _
                      go_wp2_with fail
                      exact ⟨⟨k + 1, _, _, by go_num, by omega, HNX.out⟩, by simp [intOf]; omega⟩
        · go_wp2_with fail
          have HT9 : Hid (TT w q v wr.drew k xs) := Lib.hid (HV.out.on ((Below.refl _ wr).drew))
          obtain ⟨d1, d2, d4, d5, d6⟩ := HT9.out.at_ hlt HX.out
          clear c1 c2 c3 c4 c5 c6
          refine wp_region_held_drew (S := (fun w' => w'.cell? ⟨w.heap.size, k * 3, none⟩ = some (.int .i64 s) ∧ w'.cell? ⟨w.heap.size, k * 3 + 1, none⟩ = some (.int .i64 e))) (by kernel_rfl) ?_ (fun hHeld => ?_)
          · exact ⟨d1, d2⟩
          refine wpAnyH_take (i := 0) (oi := ⟨_, _, _, _, _, _⟩) (v := ?_) rfl (by kernel_rfl) (by kernel_rfl) (by kernel_rfl) (fun _ _ _ h => h) (Or.inl ⟨by rfl, ?_⟩) (by assumption) ?_
          rotate_left
          · intro w hSw; (try dsimp only at hSw); go_simp <;> with_reducible rfl
          try simp only [Act.put, List.setIfInBounds_toArray, List.set_cons_zero, List.set_cons_succ]
          refine wpAnyH_take (i := 2) (oi := ⟨_, _, _, _, _, _⟩) (v := ?_) rfl (by kernel_rfl) (by kernel_rfl) (by kernel_rfl) (fun _ _ _ h => h) (Or.inl ⟨by rfl, ?_⟩) (by assumption) ?_
          rotate_left
          · intro w hSw; (try dsimp only at hSw); go_simp <;> with_reducible rfl
          try simp only [Act.put, List.setIfInBounds_toArray, List.set_cons_zero, List.set_cons_succ]
          refine wpAnyH_take (i := 4) (oi := ⟨_, _, _, _, _, _⟩) (v := ?_) rfl (by kernel_rfl) (by kernel_rfl) (by kernel_rfl) (fun _ _ _ h => h) (Or.inl ⟨by rfl, ?_⟩) (by assumption) ?_
          rotate_left
          · intro w hSw; (try dsimp only at hSw); go_simp <;> with_reducible rfl
          try simp only [Act.put, List.setIfInBounds_toArray, List.set_cons_zero, List.set_cons_succ]
          refine wpAnyH_take (i := 5) (oi := ⟨_, _, _, _, _, _⟩) (v := ?_) rfl (by kernel_rfl) (by kernel_rfl) (by kernel_rfl) (fun _ _ _ h => h) (Or.inl ⟨by rfl, ?_⟩) (by assumption) ?_
          rotate_left
          · intro w hSw; (try dsimp only at hSw); go_simp <;> with_reducible rfl
          try simp only [Act.put, List.setIfInBounds_toArray, List.set_cons_zero, List.set_cons_succ]
          refine wpAnyH_take (i := 6) (oi := ⟨_, _, _, _, _, _⟩) (v := ?_) rfl (by kernel_rfl) (by kernel_rfl) (by kernel_rfl) (fun _ _ _ h => h) (Or.inl ⟨by rfl, ?_⟩) (by assumption) ?_
          rotate_left
          · intro w hSw; (try dsimp only at hSw); go_simp <;> with_reducible rfl
          try simp only [Act.put, List.setIfInBounds_toArray, List.set_cons_zero, List.set_cons_succ]
          refine wpAnyH_take (i := 7) (oi := ⟨_, _, _, _, _, _⟩) (v := ?_) rfl (by kernel_rfl) (by kernel_rfl) (by kernel_rfl) (fun _ _ _ h => h) (Or.inl ⟨by rfl, ?_⟩) (by assumption) ?_
          rotate_left
          · intro w hSw; (try dsimp only at hSw); go_simp <;> with_reducible rfl
          try simp only [Act.put, List.setIfInBounds_toArray, List.set_cons_zero, List.set_cons_succ]
          refine wpAnyH_take (i := 9) (oi := ⟨_, _, _, _, _, _⟩) (v := ?_) rfl (by kernel_rfl) (by kernel_rfl) (by kernel_rfl) (fun _ _ _ h => h) (Or.inl ⟨by rfl, ?_⟩) (by assumption) ?_
          rotate_left
          · intro w hSw; (try dsimp only at hSw); go_simp <;> with_reducible rfl
          try simp only [Act.put, List.setIfInBounds_toArray, List.set_cons_zero, List.set_cons_succ]
          refine wpAnyH_take (i := 10) (oi := ⟨_, _, _, _, _, _⟩) (v := ?_) rfl (by kernel_rfl) (by kernel_rfl) (by kernel_rfl) (fun _ _ _ h => h) (Or.inl ⟨by rfl, ?_⟩) (by assumption) ?_
          rotate_left
          · intro w hSw; (try dsimp only at hSw); go_simp <;> with_reducible rfl
          try simp only [Act.put, List.setIfInBounds_toArray, List.set_cons_zero, List.set_cons_succ]
          refine wpAnyH_take (i := 11) (oi := ⟨_, _, _, _, _, _⟩) (v := ?_) rfl (by kernel_rfl) (by kernel_rfl) (by kernel_rfl) (fun _ _ _ h => h) (Or.inl ⟨by rfl, ?_⟩) (by assumption) ?_
          rotate_left
          · intro w hSw; (try dsimp only at hSw); go_simp <;> with_reducible rfl
          try simp only [Act.put, List.setIfInBounds_toArray, List.set_cons_zero, List.set_cons_succ]
          refine wpAnyH_take (i := 12) (oi := ⟨_, _, _, _, _, _⟩) (v := ?_) rfl (by kernel_rfl) (by kernel_rfl) (by kernel_rfl) (fun _ _ _ h => h) (Or.inl ⟨by rfl, ?_⟩) (by assumption) ?_
          rotate_left
          · intro w hSw; (try dsimp only at hSw); go_simp <;> with_reducible rfl
          try simp only [Act.put, List.setIfInBounds_toArray, List.set_cons_zero, List.set_cons_succ]
          refine wpAnyH_take (i := 14) (oi := ⟨_, _, _, _, _, _⟩) (v := ?_) rfl (by kernel_rfl) (by kernel_rfl) (by kernel_rfl) (fun _ _ _ h => h) (Or.inl ⟨by rfl, ?_⟩) (by assumption) ?_
          rotate_left
          · intro w hSw; (try dsimp only at hSw); go_simp <;> with_reducible rfl
          try simp only [Act.put, List.setIfInBounds_toArray, List.set_cons_zero, List.set_cons_succ]
          refine wpAnyH_ready (rs := [1, 3]) (by kernel_rfl) (by simp) ?_
          refine AllReadyH.cons (o := ⟨_, _, _, _, _, _⟩) rfl (fun K hK => ?_) (AllReadyH.cons (o := ⟨_, _, _, _, _, _⟩) rfl (fun K hK => ?_) AllReadyH.nil)
          · go_simp
            refine hK.out _ _ ?_ (fun hHeld => ?_)
            · exact ⟨d1, d2⟩
            clear hK K
            try simp only [Act.put, List.setIfInBounds_toArray, List.set_cons_zero, List.set_cons_succ]
            refine wpAnyH_ready (rs := [3]) (by kernel_rfl) (by simp) ?_
            refine AllReadyH.cons (o := ⟨_, _, _, _, _, _⟩) rfl (fun K hK => ?_) AllReadyH.nil
            go_simp; go_at_call 28; refine (rnumber_c _ _).mono ?_; rintro en w9 ⟨rfl, hb9⟩; have HT9 : Hid (TT w q v w9 k xs) := Lib.hid (HT9.out.on hb9); obtain ⟨d1, d2, d4, d5, d6⟩ := HT9.out.at_ hlt HX.out; clear hb9
            refine hK.out _ _ ?_ (fun hHeld => ?_)
            · exact ⟨d1, d2⟩
            clear hK K
            try simp only [Act.put, List.setIfInBounds_toArray, List.set_cons_zero, List.set_cons_succ]
            refine wpAnyH_ready (rs := [8]) (by kernel_rfl) (by simp) ?_
            refine AllReadyH.cons (o := ⟨_, _, _, _, _, _⟩) rfl (fun K hK => ?_) AllReadyH.nil
            go_simp; go_at_call 28; refine (rnumber_c _ _).mono ?_; rintro en w9 ⟨rfl, hb9⟩; have HT9 : Hid (TT w q v w9 k xs) := Lib.hid (HT9.out.on hb9); obtain ⟨d1, d2, d4, d5, d6⟩ := HT9.out.at_ hlt HX.out; clear hb9
            refine hK.out _ _ ?_ (fun hHeld => ?_)
            · exact ⟨d1, d2⟩
            clear hK K
            try simp only [Act.put, List.setIfInBounds_toArray, List.set_cons_zero, List.set_cons_succ]
            refine wpAnyH_ready (rs := [13]) (by kernel_rfl) (by simp) ?_
            refine AllReadyH.cons (o := ⟨_, _, _, _, _, _⟩) rfl (fun K hK => ?_) AllReadyH.nil
            go_simp; go_at_call 28; refine (rnumber_c _ _).mono ?_; rintro en w9 ⟨rfl, hb9⟩; have HT9 : Hid (TT w q v w9 k xs) := Lib.hid (HT9.out.on hb9); obtain ⟨d1, d2, d4, d5, d6⟩ := HT9.out.at_ hlt HX.out; clear hb9
            refine hK.out _ _ ?_ (fun hHeld => ?_)
            · exact ⟨d1, d2⟩
            clear hK K
            try simp only [Act.put, List.setIfInBounds_toArray, List.set_cons_zero, List.set_cons_succ]
            refine wpAnyH_ready (rs := [15]) (by kernel_rfl) (by simp) ?_
            refine AllReadyH.cons (o := ⟨_, _, _, _, _, _⟩) rfl (fun K hK => ?_) AllReadyH.nil
            go_simp; go_at_call 28; refine (rnumber_c _ _).mono ?_; rintro en w9 ⟨rfl, hb9⟩; have HT9 : Hid (TT w q v w9 k xs) := Lib.hid (HT9.out.on hb9); obtain ⟨d1, d2, d4, d5, d6⟩ := HT9.out.at_ hlt HX.out; clear hb9
            refine hK.out _ _ ?_ (fun hHeld => ?_)
            · exact ⟨d1, d2⟩
            clear hK K
            try simp only [Act.put, List.setIfInBounds_toArray, List.set_cons_zero, List.set_cons_succ]
            refine wpAnyH_ready (rs := [16]) (by kernel_rfl) (by simp) ?_
            refine AllReadyH.cons (o := ⟨_, _, _, _, _, _⟩) rfl (fun K hK => ?_) AllReadyH.nil
            have HTA : Hid (TT w q v (w9.alloc (.cells #[.int .i64 1, .int .i64 (k : Int), .string ⟨#[]⟩, .slice none 0 0, .int .i64 1, .int .i64 s, .string ⟨#[]⟩, .slice none 0 0, .int .i64 1, .int .i64 e, .string ⟨#[]⟩, .slice none 0 0, .int .i64 1, .int .i64 1, .string ⟨#[]⟩, .slice none 0 0] 68)) k xs) := Lib.hid (HT9.out.on ((Below.refl _ w9).alloc (Nat.le_refl _) _))
            obtain ⟨d1, d2, d4, d5, d6⟩ := HTA.out.at_ hlt HX.out
            go_simp
            refine hK.out _ _ ?_ (fun hHeld => ?_)
            · exact ⟨d1, d2⟩
            clear hK K
            try simp only [Act.put, List.setIfInBounds_toArray, List.set_cons_zero, List.set_cons_succ]
            refine wpAnyH_take (i := 17) (oi := ⟨_, _, _, _, _, _⟩) (v := ?_) rfl (by kernel_rfl) (by kernel_rfl) (by kernel_rfl) (fun _ _ _ h => h) (Or.inl ⟨by rfl, ?_⟩) (by assumption) ?_
            rotate_left
            · intro w hSw; (try dsimp only at hSw); go_simp <;> with_reducible rfl
            try simp only [Act.put, List.setIfInBounds_toArray, List.set_cons_zero, List.set_cons_succ]
            refine wpAnyH_ready (rs := [18]) (by kernel_rfl) (by simp) ?_
            refine AllReadyH.cons (o := ⟨_, _, _, _, _, _⟩) rfl (fun K hK => ?_) AllReadyH.nil
            have HTB : Hid (TT w q v ((w9.alloc (.cells #[.int .i64 1, .int .i64 (k : Int), .string ⟨#[]⟩, .slice none 0 0, .int .i64 1, .int .i64 s, .string ⟨#[]⟩, .slice none 0 0, .int .i64 1, .int .i64 e, .string ⟨#[]⟩, .slice none 0 0, .int .i64 1, .int .i64 1, .string ⟨#[]⟩, .slice none 0 0] 68)).alloc (.cells #[.int .i64 3, .int .i64 0, .string ⟨#[]⟩, .slice (some ⟨w9.heap.size, 0, none⟩) 4 4] 68)) k xs) := Lib.hid (HTA.out.on ((Below.refl _ _).alloc (Nat.le_refl _) _))
            obtain ⟨d1, d2, d4, d5, d6⟩ := HTB.out.at_ hlt HX.out
            go_simp
            refine hK.out _ _ ?_ (fun hHeld => ?_)
            · exact ⟨d1, d2⟩
            clear hK K
            try simp only [Act.put, List.setIfInBounds_toArray, List.set_cons_zero, List.set_cons_succ]
            refine wpAnyH_ready (rs := [19]) (by kernel_rfl) (by simp) ?_
            refine AllReadyH.cons (o := ⟨_, _, _, _, _, _⟩) rfl (fun K hK => ?_) AllReadyH.nil
            refine step_append_lies _ rfl (.tmp 23) (.tmp 40) 66 rfl (w.heap.size + 2) 68 i0 _ 4 56 Tryd.underlying66 hi hz0 hz1 hz2 rfl (by decide) v _ xs rfl HTB.out.own ⟨w9.heap.size + 1, 0, none⟩ 1 1 [.int .i64 3, .int .i64 0, .string ⟨#[]⟩, .slice (some ⟨w9.heap.size, 0, none⟩) 4 4] rfl rfl (fun j u hu => by rw [add_flat, Nat.zero_add]; exact (laid_row (w := w9) (rcells (k : Int) s e 1) [.int .i64 3, .int .i64 0, .string ⟨#[]⟩, .slice (some ⟨w9.heap.size, 0, none⟩) 4 4] 68).2.1.cell hu) (by intro u hu; simp at hu; rcases hu with rfl | rfl | rfl | rfl <;> rfl) (by omega) (by unfold maxLen; omega) (by omega) (by have := HT9.out.vb.lt; simp; omega) _ rfl ?_
            intro g cap w10 hown10 hg10 ho10 hlt10
            obtain ⟨hnext, hstc⟩ := HT9.out.next hlt hkq HX.out hs0 (m := 1) rfl rfl hown10 hg10 ho10
            have HNX := Lib.hid hnext
            obtain ⟨y1, y2, y3⟩ := TT.facts hstc.1
            obtain ⟨z1, z2⟩ := hstc.2.at2 hlt HX.out
            clear hown10 hg10 ho10 hnext hstc
            refine hK.out _ _ ?_ (fun hHeld => ?_)
            · exact ⟨z1, z2⟩
            clear hK K
            try simp only [Act.put, List.setIfInBounds_toArray, List.set_cons_zero, List.set_cons_succ]
            refine wpAnyH_take (i := 20) (oi := ⟨_, _, _, _, _, _⟩) (v := ?_) rfl (by kernel_rfl) (by kernel_rfl) (by kernel_rfl) (fun _ _ _ h => h) (Or.inl ⟨by rfl, ?_⟩) (by assumption) ?_
            rotate_left
            · intro w hSw; (try dsimp only at hSw); go_simp <;> with_reducible rfl
            try simp only [Act.put, List.setIfInBounds_toArray, List.set_cons_zero, List.set_cons_succ]
            refine wpAnyH_ready (rs := [21]) (by kernel_rfl) (by simp) ?_
            refine AllReadyH.cons (o := ⟨_, _, _, _, _, _⟩) rfl (fun K hK => ?_) AllReadyH.nil
            obtain ⟨u1, u2⟩ := HNX.out.tb.at2 hlt HX.out
            go_simp
            refine hK.out _ _ ?_ (fun hHeld => ?_)
            · exact ⟨u1, u2⟩
            clear hK K
            try simp only [Act.put, List.setIfInBounds_toArray, List.set_cons_zero, List.set_cons_succ]
            refine wpAnyH_done (by kernel_rfl) ?_ _
            go_wp2_with fail
            exact ⟨⟨k + 1, _, _, by go_num, by omega, HNX.out⟩, by simp [intOf]; omega⟩
          · go_simp; go_at_call 28; refine (rnumber_c _ _).mono ?_; rintro en w9 ⟨rfl, hb9⟩; have HT9 : Hid (TT w q v w9 k xs) := Lib.hid (HT9.out.on hb9); obtain ⟨d1, d2, d4, d5, d6⟩ := HT9.out.at_ hlt HX.out; clear hb9
            refine hK.out _ _ ?_ (fun hHeld => ?_)
            · exact ⟨d1, d2⟩
            clear hK K
            try simp only [Act.put, List.setIfInBounds_toArray, List.set_cons_zero, List.set_cons_succ]
            refine wpAnyH_ready (rs := [1, 8]) (by kernel_rfl) (by simp) ?_
            refine AllReadyH.cons (o := ⟨_, _, _, _, _, _⟩) rfl (fun K hK => ?_) (AllReadyH.cons (o := ⟨_, _, _, _, _, _⟩) rfl (fun K hK => ?_) AllReadyH.nil)
            · go_simp
              refine hK.out _ _ ?_ (fun hHeld => ?_)
              · exact ⟨d1, d2⟩
              clear hK K
              try simp only [Act.put, List.setIfInBounds_toArray, List.set_cons_zero, List.set_cons_succ]
              refine wpAnyH_ready (rs := [8]) (by kernel_rfl) (by simp) ?_
              refine AllReadyH.cons (o := ⟨_, _, _, _, _, _⟩) rfl (fun K hK => ?_) AllReadyH.nil
              go_simp; go_at_call 28; refine (rnumber_c _ _).mono ?_; rintro en w9 ⟨rfl, hb9⟩; have HT9 : Hid (TT w q v w9 k xs) := Lib.hid (HT9.out.on hb9); obtain ⟨d1, d2, d4, d5, d6⟩ := HT9.out.at_ hlt HX.out; clear hb9
              refine hK.out _ _ ?_ (fun hHeld => ?_)
              · exact ⟨d1, d2⟩
              clear hK K
              try simp only [Act.put, List.setIfInBounds_toArray, List.set_cons_zero, List.set_cons_succ]
              refine wpAnyH_ready (rs := [13]) (by kernel_rfl) (by simp) ?_
              refine AllReadyH.cons (o := ⟨_, _, _, _, _, _⟩) rfl (fun K hK => ?_) AllReadyH.nil
              go_simp; go_at_call 28; refine (rnumber_c _ _).mono ?_; rintro en w9 ⟨rfl, hb9⟩; have HT9 : Hid (TT w q v w9 k xs) := Lib.hid (HT9.out.on hb9); obtain ⟨d1, d2, d4, d5, d6⟩ := HT9.out.at_ hlt HX.out; clear hb9
              refine hK.out _ _ ?_ (fun hHeld => ?_)
              · exact ⟨d1, d2⟩
              clear hK K
              try simp only [Act.put, List.setIfInBounds_toArray, List.set_cons_zero, List.set_cons_succ]
              refine wpAnyH_ready (rs := [15]) (by kernel_rfl) (by simp) ?_
              refine AllReadyH.cons (o := ⟨_, _, _, _, _, _⟩) rfl (fun K hK => ?_) AllReadyH.nil
              go_simp; go_at_call 28; refine (rnumber_c _ _).mono ?_; rintro en w9 ⟨rfl, hb9⟩; have HT9 : Hid (TT w q v w9 k xs) := Lib.hid (HT9.out.on hb9); obtain ⟨d1, d2, d4, d5, d6⟩ := HT9.out.at_ hlt HX.out; clear hb9
              refine hK.out _ _ ?_ (fun hHeld => ?_)
              · exact ⟨d1, d2⟩
              clear hK K
              try simp only [Act.put, List.setIfInBounds_toArray, List.set_cons_zero, List.set_cons_succ]
              refine wpAnyH_ready (rs := [16]) (by kernel_rfl) (by simp) ?_
              refine AllReadyH.cons (o := ⟨_, _, _, _, _, _⟩) rfl (fun K hK => ?_) AllReadyH.nil
              have HTA : Hid (TT w q v (w9.alloc (.cells #[.int .i64 1, .int .i64 (k : Int), .string ⟨#[]⟩, .slice none 0 0, .int .i64 1, .int .i64 s, .string ⟨#[]⟩, .slice none 0 0, .int .i64 1, .int .i64 e, .string ⟨#[]⟩, .slice none 0 0, .int .i64 1, .int .i64 1, .string ⟨#[]⟩, .slice none 0 0] 68)) k xs) := Lib.hid (HT9.out.on ((Below.refl _ w9).alloc (Nat.le_refl _) _))
              obtain ⟨d1, d2, d4, d5, d6⟩ := HTA.out.at_ hlt HX.out
              go_simp
              refine hK.out _ _ ?_ (fun hHeld => ?_)
              · exact ⟨d1, d2⟩
              clear hK K
              try simp only [Act.put, List.setIfInBounds_toArray, List.set_cons_zero, List.set_cons_succ]
              refine wpAnyH_take (i := 17) (oi := ⟨_, _, _, _, _, _⟩) (v := ?_) rfl (by kernel_rfl) (by kernel_rfl) (by kernel_rfl) (fun _ _ _ h => h) (Or.inl ⟨by rfl, ?_⟩) (by assumption) ?_
              rotate_left
              · intro w hSw; (try dsimp only at hSw); go_simp <;> with_reducible rfl
              try simp only [Act.put, List.setIfInBounds_toArray, List.set_cons_zero, List.set_cons_succ]
              refine wpAnyH_ready (rs := [18]) (by kernel_rfl) (by simp) ?_
              refine AllReadyH.cons (o := ⟨_, _, _, _, _, _⟩) rfl (fun K hK => ?_) AllReadyH.nil
              have HTB : Hid (TT w q v ((w9.alloc (.cells #[.int .i64 1, .int .i64 (k : Int), .string ⟨#[]⟩, .slice none 0 0, .int .i64 1, .int .i64 s, .string ⟨#[]⟩, .slice none 0 0, .int .i64 1, .int .i64 e, .string ⟨#[]⟩, .slice none 0 0, .int .i64 1, .int .i64 1, .string ⟨#[]⟩, .slice none 0 0] 68)).alloc (.cells #[.int .i64 3, .int .i64 0, .string ⟨#[]⟩, .slice (some ⟨w9.heap.size, 0, none⟩) 4 4] 68)) k xs) := Lib.hid (HTA.out.on ((Below.refl _ _).alloc (Nat.le_refl _) _))
              obtain ⟨d1, d2, d4, d5, d6⟩ := HTB.out.at_ hlt HX.out
              go_simp
              refine hK.out _ _ ?_ (fun hHeld => ?_)
              · exact ⟨d1, d2⟩
              clear hK K
              try simp only [Act.put, List.setIfInBounds_toArray, List.set_cons_zero, List.set_cons_succ]
              refine wpAnyH_ready (rs := [19]) (by kernel_rfl) (by simp) ?_
              refine AllReadyH.cons (o := ⟨_, _, _, _, _, _⟩) rfl (fun K hK => ?_) AllReadyH.nil
              refine step_append_lies _ rfl (.tmp 23) (.tmp 40) 66 rfl (w.heap.size + 2) 68 i0 _ 4 56 Tryd.underlying66 hi hz0 hz1 hz2 rfl (by decide) v _ xs rfl HTB.out.own ⟨w9.heap.size + 1, 0, none⟩ 1 1 [.int .i64 3, .int .i64 0, .string ⟨#[]⟩, .slice (some ⟨w9.heap.size, 0, none⟩) 4 4] rfl rfl (fun j u hu => by rw [add_flat, Nat.zero_add]; exact (laid_row (w := w9) (rcells (k : Int) s e 1) [.int .i64 3, .int .i64 0, .string ⟨#[]⟩, .slice (some ⟨w9.heap.size, 0, none⟩) 4 4] 68).2.1.cell hu) (by intro u hu; simp at hu; rcases hu with rfl | rfl | rfl | rfl <;> rfl) (by omega) (by unfold maxLen; omega) (by omega) (by have := HT9.out.vb.lt; simp; omega) _ rfl ?_
              intro g cap w10 hown10 hg10 ho10 hlt10
              obtain ⟨hnext, hstc⟩ := HT9.out.next hlt hkq HX.out hs0 (m := 1) rfl rfl hown10 hg10 ho10
              have HNX := Lib.hid hnext
              obtain ⟨y1, y2, y3⟩ := TT.facts hstc.1
              obtain ⟨z1, z2⟩ := hstc.2.at2 hlt HX.out
              clear hown10 hg10 ho10 hnext hstc
              refine hK.out _ _ ?_ (fun hHeld => ?_)
              · exact ⟨z1, z2⟩
              clear hK K
              try simp only [Act.put, List.setIfInBounds_toArray, List.set_cons_zero, List.set_cons_succ]
              refine wpAnyH_take (i := 20) (oi := ⟨_, _, _, _, _, _⟩) (v := ?_) rfl (by kernel_rfl) (by kernel_rfl) (by kernel_rfl) (fun _ _ _ h => h) (Or.inl ⟨by rfl, ?_⟩) (by assumption) ?_
              rotate_left
              · intro w hSw; (try dsimp only at hSw); go_simp <;> with_reducible rfl
              try simp only [Act.put, List.setIfInBounds_toArray, List.set_cons_zero, List.set_cons_succ]
              refine wpAnyH_ready (rs := [21]) (by kernel_rfl) (by simp) ?_
              refine AllReadyH.cons (o := ⟨_, _, _, _, _, _⟩) rfl (fun K hK => ?_) AllReadyH.nil
              obtain ⟨u1, u2⟩ := HNX.out.tb.at2 hlt HX.out
              go_simp
              refine hK.out _ _ ?_ (fun hHeld => ?_)
              · exact ⟨u1, u2⟩
              clear hK K
              try simp only [Act.put, List.setIfInBounds_toArray, List.set_cons_zero, List.set_cons_succ]
              refine wpAnyH_done (by kernel_rfl) ?_ _
              go_wp2_with fail
              exact ⟨⟨k + 1, _, _, by go_num, by omega, HNX.out⟩, by simp [intOf]; omega⟩
            · go_simp; go_at_call 28; refine (rnumber_c _ _).mono ?_; rintro en w9 ⟨rfl, hb9⟩; have HT9 : Hid (TT w q v w9 k xs) := Lib.hid (HT9.out.on hb9); obtain ⟨d1, d2, d4, d5, d6⟩ := HT9.out.at_ hlt HX.out; clear hb9
              refine hK.out _ _ ?_ (fun hHeld => ?_)
              · exact ⟨d1, d2⟩
              clear hK K
              try simp only [Act.put, List.setIfInBounds_toArray, List.set_cons_zero, List.set_cons_succ]
              refine wpAnyH_ready (rs := [1, 13]) (by kernel_rfl) (by simp) ?_
              refine AllReadyH.cons (o := ⟨_, _, _, _, _, _⟩) rfl (fun K hK => ?_) (AllReadyH.cons (o := ⟨_, _, _, _, _, _⟩) rfl (fun K hK => ?_) AllReadyH.nil)
              · go_simp
                refine hK.out _ _ ?_ (fun hHeld => ?_)
                · exact ⟨d1, d2⟩
                clear hK K
                try simp only [Act.put, List.setIfInBounds_toArray, List.set_cons_zero, List.set_cons_succ]
                refine wpAnyH_ready (rs := [13]) (by kernel_rfl) (by simp) ?_
                refine AllReadyH.cons (o := ⟨_, _, _, _, _, _⟩) rfl (fun K hK => ?_) AllReadyH.nil
                go_simp; go_at_call 28; refine (rnumber_c _ _).mono ?_; rintro en w9 ⟨rfl, hb9⟩; have HT9 : Hid (TT w q v w9 k xs) := Lib.hid (HT9.out.on hb9); obtain ⟨d1, d2, d4, d5, d6⟩ := HT9.out.at_ hlt HX.out; clear hb9
                refine hK.out _ _ ?_ (fun hHeld => ?_)
                · exact ⟨d1, d2⟩
                clear hK K
                try simp only [Act.put, List.setIfInBounds_toArray, List.set_cons_zero, List.set_cons_succ]
                refine wpAnyH_ready (rs := [15]) (by kernel_rfl) (by simp) ?_
                refine AllReadyH.cons (o := ⟨_, _, _, _, _, _⟩) rfl (fun K hK => ?_) AllReadyH.nil
                go_simp; go_at_call 28; refine (rnumber_c _ _).mono ?_; rintro en w9 ⟨rfl, hb9⟩; have HT9 : Hid (TT w q v w9 k xs) := Lib.hid (HT9.out.on hb9); obtain ⟨d1, d2, d4, d5, d6⟩ := HT9.out.at_ hlt HX.out; clear hb9
                refine hK.out _ _ ?_ (fun hHeld => ?_)
                · exact ⟨d1, d2⟩
                clear hK K
                try simp only [Act.put, List.setIfInBounds_toArray, List.set_cons_zero, List.set_cons_succ]
                refine wpAnyH_ready (rs := [16]) (by kernel_rfl) (by simp) ?_
                refine AllReadyH.cons (o := ⟨_, _, _, _, _, _⟩) rfl (fun K hK => ?_) AllReadyH.nil
                have HTA : Hid (TT w q v (w9.alloc (.cells #[.int .i64 1, .int .i64 (k : Int), .string ⟨#[]⟩, .slice none 0 0, .int .i64 1, .int .i64 s, .string ⟨#[]⟩, .slice none 0 0, .int .i64 1, .int .i64 e, .string ⟨#[]⟩, .slice none 0 0, .int .i64 1, .int .i64 1, .string ⟨#[]⟩, .slice none 0 0] 68)) k xs) := Lib.hid (HT9.out.on ((Below.refl _ w9).alloc (Nat.le_refl _) _))
                obtain ⟨d1, d2, d4, d5, d6⟩ := HTA.out.at_ hlt HX.out
                go_simp
                refine hK.out _ _ ?_ (fun hHeld => ?_)
                · exact ⟨d1, d2⟩
                clear hK K
                try simp only [Act.put, List.setIfInBounds_toArray, List.set_cons_zero, List.set_cons_succ]
                refine wpAnyH_take (i := 17) (oi := ⟨_, _, _, _, _, _⟩) (v := ?_) rfl (by kernel_rfl) (by kernel_rfl) (by kernel_rfl) (fun _ _ _ h => h) (Or.inl ⟨by rfl, ?_⟩) (by assumption) ?_
                rotate_left
                · intro w hSw; (try dsimp only at hSw); go_simp <;> with_reducible rfl
                try simp only [Act.put, List.setIfInBounds_toArray, List.set_cons_zero, List.set_cons_succ]
                refine wpAnyH_ready (rs := [18]) (by kernel_rfl) (by simp) ?_
                refine AllReadyH.cons (o := ⟨_, _, _, _, _, _⟩) rfl (fun K hK => ?_) AllReadyH.nil
                have HTB : Hid (TT w q v ((w9.alloc (.cells #[.int .i64 1, .int .i64 (k : Int), .string ⟨#[]⟩, .slice none 0 0, .int .i64 1, .int .i64 s, .string ⟨#[]⟩, .slice none 0 0, .int .i64 1, .int .i64 e, .string ⟨#[]⟩, .slice none 0 0, .int .i64 1, .int .i64 1, .string ⟨#[]⟩, .slice none 0 0] 68)).alloc (.cells #[.int .i64 3, .int .i64 0, .string ⟨#[]⟩, .slice (some ⟨w9.heap.size, 0, none⟩) 4 4] 68)) k xs) := Lib.hid (HTA.out.on ((Below.refl _ _).alloc (Nat.le_refl _) _))
                obtain ⟨d1, d2, d4, d5, d6⟩ := HTB.out.at_ hlt HX.out
                go_simp
                refine hK.out _ _ ?_ (fun hHeld => ?_)
                · exact ⟨d1, d2⟩
                clear hK K
                try simp only [Act.put, List.setIfInBounds_toArray, List.set_cons_zero, List.set_cons_succ]
                refine wpAnyH_ready (rs := [19]) (by kernel_rfl) (by simp) ?_
                refine AllReadyH.cons (o := ⟨_, _, _, _, _, _⟩) rfl (fun K hK => ?_) AllReadyH.nil
                refine step_append_lies _ rfl (.tmp 23) (.tmp 40) 66 rfl (w.heap.size + 2) 68 i0 _ 4 56 Tryd.underlying66 hi hz0 hz1 hz2 rfl (by decide) v _ xs rfl HTB.out.own ⟨w9.heap.size + 1, 0, none⟩ 1 1 [.int .i64 3, .int .i64 0, .string ⟨#[]⟩, .slice (some ⟨w9.heap.size, 0, none⟩) 4 4] rfl rfl (fun j u hu => by rw [add_flat, Nat.zero_add]; exact (laid_row (w := w9) (rcells (k : Int) s e 1) [.int .i64 3, .int .i64 0, .string ⟨#[]⟩, .slice (some ⟨w9.heap.size, 0, none⟩) 4 4] 68).2.1.cell hu) (by intro u hu; simp at hu; rcases hu with rfl | rfl | rfl | rfl <;> rfl) (by omega) (by unfold maxLen; omega) (by omega) (by have := HT9.out.vb.lt; simp; omega) _ rfl ?_
                intro g cap w10 hown10 hg10 ho10 hlt10
                obtain ⟨hnext, hstc⟩ := HT9.out.next hlt hkq HX.out hs0 (m := 1) rfl rfl hown10 hg10 ho10
                have HNX := Lib.hid hnext
                obtain ⟨y1, y2, y3⟩ := TT.facts hstc.1
                obtain ⟨z1, z2⟩ := hstc.2.at2 hlt HX.out
                clear hown10 hg10 ho10 hnext hstc
                refine hK.out _ _ ?_ (fun hHeld => ?_)
                · exact ⟨z1, z2⟩
                clear hK K
                try simp only [Act.put, List.setIfInBounds_toArray, List.set_cons_zero, List.set_cons_succ]
                refine wpAnyH_take (i := 20) (oi := ⟨_, _, _, _, _, _⟩) (v := ?_) rfl (by kernel_rfl) (by kernel_rfl) (by kernel_rfl) (fun _ _ _ h => h) (Or.inl ⟨by rfl, ?_⟩) (by assumption) ?_
                rotate_left
                · intro w hSw; (try dsimp only at hSw); go_simp <;> with_reducible rfl
                try simp only [Act.put, List.setIfInBounds_toArray, List.set_cons_zero, List.set_cons_succ]
                refine wpAnyH_ready (rs := [21]) (by kernel_rfl) (by simp) ?_
                refine AllReadyH.cons (o := ⟨_, _, _, _, _, _⟩) rfl (fun K hK => ?_) AllReadyH.nil
                obtain ⟨u1, u2⟩ := HNX.out.tb.at2 hlt HX.out
                go_simp
                refine hK.out _ _ ?_ (fun hHeld => ?_)
                · exact ⟨u1, u2⟩
                clear hK K
                try simp only [Act.put, List.setIfInBounds_toArray, List.set_cons_zero, List.set_cons_succ]
                refine wpAnyH_done (by kernel_rfl) ?_ _
                go_wp2_with fail
                exact ⟨⟨k + 1, _, _, by go_num, by omega, HNX.out⟩, by simp [intOf]; omega⟩
              · go_simp; go_at_call 28; refine (rnumber_c _ _).mono ?_; rintro en w9 ⟨rfl, hb9⟩; have HT9 : Hid (TT w q v w9 k xs) := Lib.hid (HT9.out.on hb9); obtain ⟨d1, d2, d4, d5, d6⟩ := HT9.out.at_ hlt HX.out; clear hb9
                refine hK.out _ _ ?_ (fun hHeld => ?_)
                · exact ⟨d1, d2⟩
                clear hK K
                try simp only [Act.put, List.setIfInBounds_toArray, List.set_cons_zero, List.set_cons_succ]
                refine wpAnyH_ready (rs := [1, 15]) (by kernel_rfl) (by simp) ?_
                refine AllReadyH.cons (o := ⟨_, _, _, _, _, _⟩) rfl (fun K hK => ?_) (AllReadyH.cons (o := ⟨_, _, _, _, _, _⟩) rfl (fun K hK => ?_) AllReadyH.nil)
                · go_simp
                  refine hK.out _ _ ?_ (fun hHeld => ?_)
                  · exact ⟨d1, d2⟩
                  clear hK K
                  try simp only [Act.put, List.setIfInBounds_toArray, List.set_cons_zero, List.set_cons_succ]
                  refine wpAnyH_ready (rs := [15]) (by kernel_rfl) (by simp) ?_
                  refine AllReadyH.cons (o := ⟨_, _, _, _, _, _⟩) rfl (fun K hK => ?_) AllReadyH.nil
                  go_simp; go_at_call 28; refine (rnumber_c _ _).mono ?_; rintro en w9 ⟨rfl, hb9⟩; have HT9 : Hid (TT w q v w9 k xs) := Lib.hid (HT9.out.on hb9); obtain ⟨d1, d2, d4, d5, d6⟩ := HT9.out.at_ hlt HX.out; clear hb9
                  refine hK.out _ _ ?_ (fun hHeld => ?_)
                  · exact ⟨d1, d2⟩
                  clear hK K
                  try simp only [Act.put, List.setIfInBounds_toArray, List.set_cons_zero, List.set_cons_succ]
                  refine wpAnyH_ready (rs := [16]) (by kernel_rfl) (by simp) ?_
                  refine AllReadyH.cons (o := ⟨_, _, _, _, _, _⟩) rfl (fun K hK => ?_) AllReadyH.nil
                  have HTA : Hid (TT w q v (w9.alloc (.cells #[.int .i64 1, .int .i64 (k : Int), .string ⟨#[]⟩, .slice none 0 0, .int .i64 1, .int .i64 s, .string ⟨#[]⟩, .slice none 0 0, .int .i64 1, .int .i64 e, .string ⟨#[]⟩, .slice none 0 0, .int .i64 1, .int .i64 1, .string ⟨#[]⟩, .slice none 0 0] 68)) k xs) := Lib.hid (HT9.out.on ((Below.refl _ w9).alloc (Nat.le_refl _) _))
                  obtain ⟨d1, d2, d4, d5, d6⟩ := HTA.out.at_ hlt HX.out
                  go_simp
                  refine hK.out _ _ ?_ (fun hHeld => ?_)
                  · exact ⟨d1, d2⟩
                  clear hK K
                  try simp only [Act.put, List.setIfInBounds_toArray, List.set_cons_zero, List.set_cons_succ]
                  refine wpAnyH_take (i := 17) (oi := ⟨_, _, _, _, _, _⟩) (v := ?_) rfl (by kernel_rfl) (by kernel_rfl) (by kernel_rfl) (fun _ _ _ h => h) (Or.inl ⟨by rfl, ?_⟩) (by assumption) ?_
                  rotate_left
                  · intro w hSw; (try dsimp only at hSw); go_simp <;> with_reducible rfl
                  try simp only [Act.put, List.setIfInBounds_toArray, List.set_cons_zero, List.set_cons_succ]
                  refine wpAnyH_ready (rs := [18]) (by kernel_rfl) (by simp) ?_
                  refine AllReadyH.cons (o := ⟨_, _, _, _, _, _⟩) rfl (fun K hK => ?_) AllReadyH.nil
                  have HTB : Hid (TT w q v ((w9.alloc (.cells #[.int .i64 1, .int .i64 (k : Int), .string ⟨#[]⟩, .slice none 0 0, .int .i64 1, .int .i64 s, .string ⟨#[]⟩, .slice none 0 0, .int .i64 1, .int .i64 e, .string ⟨#[]⟩, .slice none 0 0, .int .i64 1, .int .i64 1, .string ⟨#[]⟩, .slice none 0 0] 68)).alloc (.cells #[.int .i64 3, .int .i64 0, .string ⟨#[]⟩, .slice (some ⟨w9.heap.size, 0, none⟩) 4 4] 68)) k xs) := Lib.hid (HTA.out.on ((Below.refl _ _).alloc (Nat.le_refl _) _))
                  obtain ⟨d1, d2, d4, d5, d6⟩ := HTB.out.at_ hlt HX.out
                  go_simp
                  refine hK.out _ _ ?_ (fun hHeld => ?_)
                  · exact ⟨d1, d2⟩
                  clear hK K
                  try simp only [Act.put, List.setIfInBounds_toArray, List.set_cons_zero, List.set_cons_succ]
                  refine wpAnyH_ready (rs := [19]) (by kernel_rfl) (by simp) ?_
                  refine AllReadyH.cons (o := ⟨_, _, _, _, _, _⟩) rfl (fun K hK => ?_) AllReadyH.nil
                  refine step_append_lies _ rfl (.tmp 23) (.tmp 40) 66 rfl (w.heap.size + 2) 68 i0 _ 4 56 Tryd.underlying66 hi hz0 hz1 hz2 rfl (by decide) v _ xs rfl HTB.out.own ⟨w9.heap.size + 1, 0, none⟩ 1 1 [.int .i64 3, .int .i64 0, .string ⟨#[]⟩, .slice (some ⟨w9.heap.size, 0, none⟩) 4 4] rfl rfl (fun j u hu => by rw [add_flat, Nat.zero_add]; exact (laid_row (w := w9) (rcells (k : Int) s e 1) [.int .i64 3, .int .i64 0, .string ⟨#[]⟩, .slice (some ⟨w9.heap.size, 0, none⟩) 4 4] 68).2.1.cell hu) (by intro u hu; simp at hu; rcases hu with rfl | rfl | rfl | rfl <;> rfl) (by omega) (by unfold maxLen; omega) (by omega) (by have := HT9.out.vb.lt; simp; omega) _ rfl ?_
                  intro g cap w10 hown10 hg10 ho10 hlt10
                  obtain ⟨hnext, hstc⟩ := HT9.out.next hlt hkq HX.out hs0 (m := 1) rfl rfl hown10 hg10 ho10
                  have HNX := Lib.hid hnext
                  obtain ⟨y1, y2, y3⟩ := TT.facts hstc.1
                  obtain ⟨z1, z2⟩ := hstc.2.at2 hlt HX.out
                  clear hown10 hg10 ho10 hnext hstc
                  refine hK.out _ _ ?_ (fun hHeld => ?_)
                  · exact ⟨z1, z2⟩
                  clear hK K
                  try simp only [Act.put, List.setIfInBounds_toArray, List.set_cons_zero, List.set_cons_succ]
                  refine wpAnyH_take (i := 20) (oi := ⟨_, _, _, _, _, _⟩) (v := ?_) rfl (by kernel_rfl) (by kernel_rfl) (by kernel_rfl) (fun _ _ _ h => h) (Or.inl ⟨by rfl, ?_⟩) (by assumption) ?_
                  rotate_left
                  · intro w hSw; (try dsimp only at hSw); go_simp <;> with_reducible rfl
                  try simp only [Act.put, List.setIfInBounds_toArray, List.set_cons_zero, List.set_cons_succ]
                  refine wpAnyH_ready (rs := [21]) (by kernel_rfl) (by simp) ?_
                  refine AllReadyH.cons (o := ⟨_, _, _, _, _, _⟩) rfl (fun K hK => ?_) AllReadyH.nil
                  obtain ⟨u1, u2⟩ := HNX.out.tb.at2 hlt HX.out
                  go_simp
                  refine hK.out _ _ ?_ (fun hHeld => ?_)
                  · exact ⟨u1, u2⟩
                  clear hK K
                  try simp only [Act.put, List.setIfInBounds_toArray, List.set_cons_zero, List.set_cons_succ]
                  refine wpAnyH_done (by kernel_rfl) ?_ _
                  go_wp2_with fail
                  exact ⟨⟨k + 1, _, _, by go_num, by omega, HNX.out⟩, by simp [intOf]; omega⟩
                · go_simp; go_at_call 28; refine (rnumber_c _ _).mono ?_; rintro en w9 ⟨rfl, hb9⟩; have HT9 : Hid (TT w q v w9 k xs) := Lib.hid (HT9.out.on hb9); obtain ⟨d1, d2, d4, d5, d6⟩ := HT9.out.at_ hlt HX.out; clear hb9
                  refine hK.out _ _ ?_ (fun hHeld => ?_)
                  · exact ⟨d1, d2⟩
                  clear hK K
                  try simp only [Act.put, List.setIfInBounds_toArray, List.set_cons_zero, List.set_cons_succ]
                  refine wpAnyH_ready (rs := [1, 16]) (by kernel_rfl) (by simp) ?_
                  refine AllReadyH.cons (o := ⟨_, _, _, _, _, _⟩) rfl (fun K hK => ?_) (AllReadyH.cons (o := ⟨_, _, _, _, _, _⟩) rfl (fun K hK => ?_) AllReadyH.nil)
                  · go_simp
                    refine hK.out _ _ ?_ (fun hHeld => ?_)
                    · exact ⟨d1, d2⟩
                    clear hK K
                    try simp only [Act.put, List.setIfInBounds_toArray, List.set_cons_zero, List.set_cons_succ]
                    refine wpAnyH_ready (rs := [16]) (by kernel_rfl) (by simp) ?_
                    refine AllReadyH.cons (o := ⟨_, _, _, _, _, _⟩) rfl (fun K hK => ?_) AllReadyH.nil
                    have HTA : Hid (TT w q v (w9.alloc (.cells #[.int .i64 1, .int .i64 (k : Int), .string ⟨#[]⟩, .slice none 0 0, .int .i64 1, .int .i64 s, .string ⟨#[]⟩, .slice none 0 0, .int .i64 1, .int .i64 e, .string ⟨#[]⟩, .slice none 0 0, .int .i64 1, .int .i64 1, .string ⟨#[]⟩, .slice none 0 0] 68)) k xs) := Lib.hid (HT9.out.on ((Below.refl _ w9).alloc (Nat.le_refl _) _))
                    obtain ⟨d1, d2, d4, d5, d6⟩ := HTA.out.at_ hlt HX.out
                    go_simp
                    refine hK.out _ _ ?_ (fun hHeld => ?_)
                    · exact ⟨d1, d2⟩
                    clear hK K
                    try simp only [Act.put, List.setIfInBounds_toArray, List.set_cons_zero, List.set_cons_succ]
                    refine wpAnyH_take (i := 17) (oi := ⟨_, _, _, _, _, _⟩) (v := ?_) rfl (by kernel_rfl) (by kernel_rfl) (by kernel_rfl) (fun _ _ _ h => h) (Or.inl ⟨by rfl, ?_⟩) (by assumption) ?_
                    rotate_left
                    · intro w hSw; (try dsimp only at hSw); go_simp <;> with_reducible rfl
                    try simp only [Act.put, List.setIfInBounds_toArray, List.set_cons_zero, List.set_cons_succ]
                    refine wpAnyH_ready (rs := [18]) (by kernel_rfl) (by simp) ?_
                    refine AllReadyH.cons (o := ⟨_, _, _, _, _, _⟩) rfl (fun K hK => ?_) AllReadyH.nil
                    have HTB : Hid (TT w q v ((w9.alloc (.cells #[.int .i64 1, .int .i64 (k : Int), .string ⟨#[]⟩, .slice none 0 0, .int .i64 1, .int .i64 s, .string ⟨#[]⟩, .slice none 0 0, .int .i64 1, .int .i64 e, .string ⟨#[]⟩, .slice none 0 0, .int .i64 1, .int .i64 1, .string ⟨#[]⟩, .slice none 0 0] 68)).alloc (.cells #[.int .i64 3, .int .i64 0, .string ⟨#[]⟩, .slice (some ⟨w9.heap.size, 0, none⟩) 4 4] 68)) k xs) := Lib.hid (HTA.out.on ((Below.refl _ _).alloc (Nat.le_refl _) _))
                    obtain ⟨d1, d2, d4, d5, d6⟩ := HTB.out.at_ hlt HX.out
                    go_simp
                    refine hK.out _ _ ?_ (fun hHeld => ?_)
                    · exact ⟨d1, d2⟩
                    clear hK K
                    try simp only [Act.put, List.setIfInBounds_toArray, List.set_cons_zero, List.set_cons_succ]
                    refine wpAnyH_ready (rs := [19]) (by kernel_rfl) (by simp) ?_
                    refine AllReadyH.cons (o := ⟨_, _, _, _, _, _⟩) rfl (fun K hK => ?_) AllReadyH.nil
                    refine step_append_lies _ rfl (.tmp 23) (.tmp 40) 66 rfl (w.heap.size + 2) 68 i0 _ 4 56 Tryd.underlying66 hi hz0 hz1 hz2 rfl (by decide) v _ xs rfl HTB.out.own ⟨w9.heap.size + 1, 0, none⟩ 1 1 [.int .i64 3, .int .i64 0, .string ⟨#[]⟩, .slice (some ⟨w9.heap.size, 0, none⟩) 4 4] rfl rfl (fun j u hu => by rw [add_flat, Nat.zero_add]; exact (laid_row (w := w9) (rcells (k : Int) s e 1) [.int .i64 3, .int .i64 0, .string ⟨#[]⟩, .slice (some ⟨w9.heap.size, 0, none⟩) 4 4] 68).2.1.cell hu) (by intro u hu; simp at hu; rcases hu with rfl | rfl | rfl | rfl <;> rfl) (by omega) (by unfold maxLen; omega) (by omega) (by have := HT9.out.vb.lt; simp; omega) _ rfl ?_
                    intro g cap w10 hown10 hg10 ho10 hlt10
                    obtain ⟨hnext, hstc⟩ := HT9.out.next hlt hkq HX.out hs0 (m := 1) rfl rfl hown10 hg10 ho10
                    have HNX := Lib.hid hnext
                    obtain ⟨y1, y2, y3⟩ := TT.facts hstc.1
                    obtain ⟨z1, z2⟩ := hstc.2.at2 hlt HX.out
                    clear hown10 hg10 ho10 hnext hstc
                    refine hK.out _ _ ?_ (fun hHeld => ?_)
                    · exact ⟨z1, z2⟩
                    clear hK K
                    try simp only [Act.put, List.setIfInBounds_toArray, List.set_cons_zero, List.set_cons_succ]
                    refine wpAnyH_take (i := 20) (oi := ⟨_, _, _, _, _, _⟩) (v := ?_) rfl (by kernel_rfl) (by kernel_rfl) (by kernel_rfl) (fun _ _ _ h => h) (Or.inl ⟨by rfl, ?_⟩) (by assumption) ?_
                    rotate_left
                    · intro w hSw; (try dsimp only at hSw); go_simp <;> with_reducible rfl
                    try simp only [Act.put, List.setIfInBounds_toArray, List.set_cons_zero, List.set_cons_succ]
                    refine wpAnyH_ready (rs := [21]) (by kernel_rfl) (by simp) ?_
                    refine AllReadyH.cons (o := ⟨_, _, _, _, _, _⟩) rfl (fun K hK => ?_) AllReadyH.nil
                    obtain ⟨u1, u2⟩ := HNX.out.tb.at2 hlt HX.out
                    go_simp
                    refine hK.out _ _ ?_ (fun hHeld => ?_)
                    · exact ⟨u1, u2⟩
                    clear hK K
                    try simp only [Act.put, List.setIfInBounds_toArray, List.set_cons_zero, List.set_cons_succ]
                    refine wpAnyH_done (by kernel_rfl) ?_ _
                    go_wp2_with fail
                    exact ⟨⟨k + 1, _, _, by go_num, by omega, HNX.out⟩, by simp [intOf]; omega⟩
                  · have HTA : Hid (TT w q v (w9.alloc (.cells #[.int .i64 1, .int .i64 (k : Int), .string ⟨#[]⟩, .slice none 0 0, .int .i64 1, .int .i64 s, .string ⟨#[]⟩, .slice none 0 0, .int .i64 1, .int .i64 e, .string ⟨#[]⟩, .slice none 0 0, .int .i64 1, .int .i64 1, .string ⟨#[]⟩, .slice none 0 0] 68)) k xs) := Lib.hid (HT9.out.on ((Below.refl _ w9).alloc (Nat.le_refl _) _))
                    obtain ⟨d1, d2, d4, d5, d6⟩ := HTA.out.at_ hlt HX.out
                    go_simp
                    refine hK.out _ _ ?_ (fun hHeld => ?_)
                    · exact ⟨d1, d2⟩
                    clear hK K
                    try simp only [Act.put, List.setIfInBounds_toArray, List.set_cons_zero, List.set_cons_succ]
                    refine wpAnyH_take (i := 17) (oi := ⟨_, _, _, _, _, _⟩) (v := ?_) rfl (by kernel_rfl) (by kernel_rfl) (by kernel_rfl) (fun _ _ _ h => h) (Or.inl ⟨by rfl, ?_⟩) (by assumption) ?_
                    rotate_left
                    · intro w hSw; (try dsimp only at hSw); go_simp <;> with_reducible rfl
                    try simp only [Act.put, List.setIfInBounds_toArray, List.set_cons_zero, List.set_cons_succ]
                    refine wpAnyH_ready (rs := [1, 18]) (by kernel_rfl) (by simp) ?_
                    refine AllReadyH.cons (o := ⟨_, _, _, _, _, _⟩) rfl (fun K hK => ?_) (AllReadyH.cons (o := ⟨_, _, _, _, _, _⟩) rfl (fun K hK => ?_) AllReadyH.nil)
                    · go_simp
                      refine hK.out _ _ ?_ (fun hHeld => ?_)
                      · exact ⟨d1, d2⟩
                      clear hK K
                      try simp only [Act.put, List.setIfInBounds_toArray, List.set_cons_zero, List.set_cons_succ]
                      refine wpAnyH_ready (rs := [18]) (by kernel_rfl) (by simp) ?_
                      refine AllReadyH.cons (o := ⟨_, _, _, _, _, _⟩) rfl (fun K hK => ?_) AllReadyH.nil
                      have HTB : Hid (TT w q v ((w9.alloc (.cells #[.int .i64 1, .int .i64 (k : Int), .string ⟨#[]⟩, .slice none 0 0, .int .i64 1, .int .i64 s, .string ⟨#[]⟩, .slice none 0 0, .int .i64 1, .int .i64 e, .string ⟨#[]⟩, .slice none 0 0, .int .i64 1, .int .i64 1, .string ⟨#[]⟩, .slice none 0 0] 68)).alloc (.cells #[.int .i64 3, .int .i64 0, .string ⟨#[]⟩, .slice (some ⟨w9.heap.size, 0, none⟩) 4 4] 68)) k xs) := Lib.hid (HTA.out.on ((Below.refl _ _).alloc (Nat.le_refl _) _))
                      obtain ⟨d1, d2, d4, d5, d6⟩ := HTB.out.at_ hlt HX.out
                      go_simp
                      refine hK.out _ _ ?_ (fun hHeld => ?_)
                      · exact ⟨d1, d2⟩
                      clear hK K
                      try simp only [Act.put, List.setIfInBounds_toArray, List.set_cons_zero, List.set_cons_succ]
                      refine wpAnyH_ready (rs := [19]) (by kernel_rfl) (by simp) ?_
                      refine AllReadyH.cons (o := ⟨_, _, _, _, _, _⟩) rfl (fun K hK => ?_) AllReadyH.nil
                      refine step_append_lies _ rfl (.tmp 23) (.tmp 40) 66 rfl (w.heap.size + 2) 68 i0 _ 4 56 Tryd.underlying66 hi hz0 hz1 hz2 rfl (by decide) v _ xs rfl HTB.out.own ⟨w9.heap.size + 1, 0, none⟩ 1 1 [.int .i64 3, .int .i64 0, .string ⟨#[]⟩, .slice (some ⟨w9.heap.size, 0, none⟩) 4 4] rfl rfl (fun j u hu => by rw [add_flat, Nat.zero_add]; exact (laid_row (w := w9) (rcells (k : Int) s e 1) [.int .i64 3, .int .i64 0, .string ⟨#[]⟩, .slice (some ⟨w9.heap.size, 0, none⟩) 4 4] 68).2.1.cell hu) (by intro u hu; simp at hu; rcases hu with rfl | rfl | rfl | rfl <;> rfl) (by omega) (by unfold maxLen; omega) (by omega) (by have := HT9.out.vb.lt; simp; omega) _ rfl ?_
                      intro g cap w10 hown10 hg10 ho10 hlt10
                      obtain ⟨hnext, hstc⟩ := HT9.out.next hlt hkq HX.out hs0 (m := 1) rfl rfl hown10 hg10 ho10
                      have HNX := Lib.hid hnext
                      obtain ⟨y1, y2, y3⟩ := TT.facts hstc.1
                      obtain ⟨z1, z2⟩ := hstc.2.at2 hlt HX.out
                      clear hown10 hg10 ho10 hnext hstc
                      refine hK.out _ _ ?_ (fun hHeld => ?_)
                      · exact ⟨z1, z2⟩
                      clear hK K
                      try simp only [Act.put, List.setIfInBounds_toArray, List.set_cons_zero, List.set_cons_succ]
                      refine wpAnyH_take (i := 20) (oi := ⟨_, _, _, _, _, _⟩) (v := ?_) rfl (by kernel_rfl) (by kernel_rfl) (by kernel_rfl) (fun _ _ _ h => h) (Or.inl ⟨by rfl, ?_⟩) (by assumption) ?_
                      rotate_left
                      · intro w hSw; (try dsimp only at hSw); go_simp <;> with_reducible rfl
                      try simp only [Act.put, List.setIfInBounds_toArray, List.set_cons_zero, List.set_cons_succ]
                      refine wpAnyH_ready (rs := [21]) (by kernel_rfl) (by simp) ?_
                      refine AllReadyH.cons (o := ⟨_, _, _, _, _, _⟩) rfl (fun K hK => ?_) AllReadyH.nil
                      obtain ⟨u1, u2⟩ := HNX.out.tb.at2 hlt HX.out
                      go_simp
                      refine hK.out _ _ ?_ (fun hHeld => ?_)
                      · exact ⟨u1, u2⟩
                      clear hK K
                      try simp only [Act.put, List.setIfInBounds_toArray, List.set_cons_zero, List.set_cons_succ]
                      refine wpAnyH_done (by kernel_rfl) ?_ _
                      go_wp2_with fail
                      exact ⟨⟨k + 1, _, _, by go_num, by omega, HNX.out⟩, by simp [intOf]; omega⟩
                    · have HTB : Hid (TT w q v ((w9.alloc (.cells #[.int .i64 1, .int .i64 (k : Int), .string ⟨#[]⟩, .slice none 0 0, .int .i64 1, .int .i64 s, .string ⟨#[]⟩, .slice none 0 0, .int .i64 1, .int .i64 e, .string ⟨#[]⟩, .slice none 0 0, .int .i64 1, .int .i64 1, .string ⟨#[]⟩, .slice none 0 0] 68)).alloc (.cells #[.int .i64 3, .int .i64 0, .string ⟨#[]⟩, .slice (some ⟨w9.heap.size, 0, none⟩) 4 4] 68)) k xs) := Lib.hid (HTA.out.on ((Below.refl _ _).alloc (Nat.le_refl _) _))
                      obtain ⟨d1, d2, d4, d5, d6⟩ := HTB.out.at_ hlt HX.out
                      go_simp
                      refine hK.out _ _ ?_ (fun hHeld => ?_)
                      · exact ⟨d1, d2⟩
                      clear hK K
                      try simp only [Act.put, List.setIfInBounds_toArray, List.set_cons_zero, List.set_cons_succ]
                      refine wpAnyH_ready (rs := [1]) (by kernel_rfl) (by simp) ?_
                      refine AllReadyH.cons (o := ⟨_, _, _, _, _, _⟩) rfl (fun K hK => ?_) AllReadyH.nil
                      go_simp
                      refine hK.out _ _ ?_ (fun hHeld => ?_)
                      · exact ⟨d1, d2⟩
                      clear hK K
                      try simp only [Act.put, List.setIfInBounds_toArray, List.set_cons_zero, List.set_cons_succ]
                      refine wpAnyH_ready (rs := [19]) (by kernel_rfl) (by simp) ?_
                      refine AllReadyH.cons (o := ⟨_, _, _, _, _, _⟩) rfl (fun K hK => ?_) AllReadyH.nil
                      refine step_append_lies _ rfl (.tmp 23) (.tmp 40) 66 rfl (w.heap.size + 2) 68 i0 _ 4 56 Tryd.underlying66 hi hz0 hz1 hz2 rfl (by decide) v _ xs rfl HTB.out.own ⟨w9.heap.size + 1, 0, none⟩ 1 1 [.int .i64 3, .int .i64 0, .string ⟨#[]⟩, .slice (some ⟨w9.heap.size, 0, none⟩) 4 4] rfl rfl (fun j u hu => by rw [add_flat, Nat.zero_add]; exact (laid_row (w := w9) (rcells (k : Int) s e 1) [.int .i64 3, .int .i64 0, .string ⟨#[]⟩, .slice (some ⟨w9.heap.size, 0, none⟩) 4 4] 68).2.1.cell hu) (by intro u hu; simp at hu; rcases hu with rfl | rfl | rfl | rfl <;> rfl) (by omega) (by unfold maxLen; omega) (by omega) (by have := HT9.out.vb.lt; simp; omega) _ rfl ?_
                      intro g cap w10 hown10 hg10 ho10 hlt10
                      obtain ⟨hnext, hstc⟩ := HT9.out.next hlt hkq HX.out hs0 (m := 1) rfl rfl hown10 hg10 ho10
                      have HNX := Lib.hid hnext
                      obtain ⟨y1, y2, y3⟩ := TT.facts hstc.1
                      obtain ⟨z1, z2⟩ := hstc.2.at2 hlt HX.out
                      clear hown10 hg10 ho10 hnext hstc
                      refine hK.out _ _ ?_ (fun hHeld => ?_)
                      · exact ⟨z1, z2⟩
                      clear hK K
                      try simp only [Act.put, List.setIfInBounds_toArray, List.set_cons_zero, List.set_cons_succ]
                      refine wpAnyH_take (i := 20) (oi := ⟨_, _, _, _, _, _⟩) (v := ?_) rfl (by kernel_rfl) (by kernel_rfl) (by kernel_rfl) (fun _ _ _ h => h) (Or.inl ⟨by rfl, ?_⟩) (by assumption) ?_
                      rotate_left
                      · intro w hSw; (try dsimp only at hSw); go_simp <;> with_reducible rfl
                      try simp only [Act.put, List.setIfInBounds_toArray, List.set_cons_zero, List.set_cons_succ]
                      refine wpAnyH_ready (rs := [21]) (by kernel_rfl) (by simp) ?_
                      refine AllReadyH.cons (o := ⟨_, _, _, _, _, _⟩) rfl (fun K hK => ?_) AllReadyH.nil
                      obtain ⟨u1, u2⟩ := HNX.out.tb.at2 hlt HX.out
                      go_simp
                      refine hK.out _ _ ?_ (fun hHeld => ?_)
                      · exact ⟨u1, u2⟩
                      clear hK K
                      try simp only [Act.put, List.setIfInBounds_toArray, List.set_cons_zero, List.set_cons_succ]
                      refine wpAnyH_done (by kernel_rfl) ?_ _
                      go_wp2_with fail
                      exact ⟨⟨k + 1, _, _, by go_num, by omega, HNX.out⟩, by simp [intOf]; omega⟩
    · obtain rfl : k = 8 := by omega
      have htk : q.take 8 = q := List.take_of_length_le (by omega)
      have hrdl := hV.rdl
      have hown := hV.own
      have hbel := hV.bel
      have hvb := hV.vb
      rw [htk] at hrdl hown
      clear htk hV
      have hn := rows_len q 0
      obtain ⟨A2, c2, rfl, hkc, hcm⟩ := own_shape hown
      obtain ⟨a1, a2, a3, a4, a5⟩ := text_facts hq
      have hRA : RdA (fun b => b < wr.heap.size) wr (textT q) (.agg #[.int .i64 3, .int .i64 0, .string ⟨#[]⟩, .slice A2 (rowsFrom 0 q).length c2]) := by
        refine ⟨A2, c2, xs, rfl, by simp [textT, T.s, maxLen], hkc, hcm, ?_, ?_⟩
        · exact (ReadsP.of_own hown).mono (fun b hb hl => hl)
        · exact RdL.mono (fun b hb hl => hl) _ _ hrdl
      have hput := rbput_any (textT q) _ _ wr hRA a1 (num_text hq) (by omega) (by omega)
      have f0 : wr.cell? ⟨w.heap.size + 1, 0, none⟩ = some (.int .i64 3) := hvb.cell rfl
      have f1 : wr.cell? ⟨w.heap.size + 1, 1, none⟩ = some (.int .i64 0) := hvb.cell rfl
      have f2 : wr.cell? ⟨w.heap.size + 1, 2, none⟩ = some (.string ⟨#[]⟩) := hvb.cell rfl
      have f3 : wr.cell? ⟨w.heap.size + 1, 3, none⟩ = some (.slice A2 (rowsFrom 0 q).length c2) := hvb.cell rfl
      clear hvb hrdl hown hRA a1 a2 a3 a4 a5
      go_wp2_with fail
      refine hput.mono ?_
      rintro e w4 ⟨rfl, hb4⟩
      clear hput f0 f1 f2 f3
      go_wp2_with fail
      go_ret
      exact ⟨rfl, hbel.trans (hb4.mono hbel.size)⟩
end Go.Proofs.YtbijaipoifpngaaDoor.Be
