/- A client's row as a value. Conditions: none. -/
import Derived.Test.YtbijaipoifpngaaDoorDRefF
import Derived.Test.YtbijaipoifpngaaDoorBRefI
import Derived.Deep.RegionHeld3
set_option linter.unusedVariables false
set_option linter.unusedSimpArgs false
set_option maxRecDepth 100000
namespace Go.Proofs.YtbijaipoifpngaaDoor.Be
open Go Go.RowKit
def tN (n : Int) : T := .mk 1 n .empty []
def tR (c s e b : Int) : T := .mk 3 0 .empty [tN c, tN s, tN e, tN b]
def ncell (n : Int) : List Value := [.int .i64 1, .int .i64 n, .string ⟨#[]⟩, .slice none 0 0]
theorem rd_tN (n : Int) (w : World) (ok : Nat → Prop) : Rd ok w (tN n) (ncell n) := ⟨none, 0, [], rfl, by simp [maxLen], by simp, by simp [maxLen], ReadsP.none_, rfl⟩
def rcells (c s e b : Int) : List Value := ncell c ++ (ncell s ++ (ncell e ++ (ncell b ++ [])))
theorem rdl4 (c s e b : Int) (w : World) (ok : Nat → Prop) : RdL ok w [tN c, tN s, tN e, tN b] (rcells c s e b) :=
  ⟨ncell c, _, rfl, rd_tN c w ok, ⟨ncell s, _, rfl, rd_tN s w ok, ⟨ncell e, _, rfl, rd_tN e w ok, ⟨ncell b, [], rfl, rd_tN b w ok, rfl⟩⟩⟩⟩
theorem rcells_one (c s e b : Int) : ∀ u ∈ rcells c s e b, u.oneCell' = true := fun u hu => List.all_eq_true.1 (show ((rcells c s e b).all fun u => u.oneCell') = true from rfl) u hu
def Tr : Nat → Prop := fun _ => True
theorem reads_new {w : World} {T : TypeId} {xs : List Value} {n size : Nat} (hl : xs.length = n * size) : ReadsP Tr (w.alloc (.cells xs.toArray T)) size (some ⟨w.heap.size, 0, none⟩) n xs := by
  have hr := Row.new w T xs
  exact ⟨hl, fun _ => ⟨_, rfl, trivial, by simp, hr.frozen 0, fun j u hj => by rw [add_flat, Nat.zero_add]; exact hr.cell hj⟩⟩
/-- What is kept while a row is made. -/
structure RB (w : World) (s e : Int) (b : Bool) (w' : World) : Prop where
  below : Below w.heap.size w w'
  x : Row w' w.heap.size 56 [.int .i64 s, .int .i64 e, .bool b]
  r : Row w' (w.heap.size + 1) 68 [.int .i64 0, .int .i64 0, .string ⟨#[]⟩, .slice none 0 0]
theorem RB.on {w w1 w2 : World} {s e : Int} {b : Bool} (h : RB w s e b w1) (hb : Below w1.heap.size w1 w2) : RB w s e b w2 := ⟨h.below.trans (hb.mono h.below.size), h.x.on hb, h.r.on hb⟩
theorem RB.cells {w w1 : World} {s e : Int} {b : Bool} (h : RB w s e b w1) : w1.cell? ⟨w.heap.size, 0, none⟩ = some (.int .i64 s) ∧ w1.cell? ⟨w.heap.size, 1, none⟩ = some (.int .i64 e) := ⟨h.x.cell rfl, h.x.cell rfl⟩
theorem RB.res {w w1 : World} {s e : Int} {b : Bool} (h : RB w s e b w1) : w1.cell? ⟨w.heap.size + 1, 0, none⟩ = some (.int .i64 0) ∧ w1.cell? ⟨w.heap.size + 1, 1, none⟩ = some (.int .i64 0) ∧ w1.cell? ⟨w.heap.size + 1, 2, none⟩ = some (.string ⟨#[]⟩) ∧ w1.cell? ⟨w.heap.size + 1, 3, none⟩ = some (.slice none 0 0) ∧ (∀ j, w1.frozen? ⟨w.heap.size + 1, j, none⟩ = false) ∧ w.heap.size + 1 < w1.heap.size :=
  ⟨h.r.cell rfl, h.r.cell rfl, h.r.cell rfl, h.r.cell rfl, fun j => h.r.frozen j, h.r.lt⟩
/-- A list of four numbers, as it comes of List. -/
def LPost (w : World) (s e : Int) (b : Bool) (c m : Int) (en : Ending) (w2 : World) : Prop :=
  ∃ A k, en = .returned (.agg #[.int .i64 3, .int .i64 0, .string ⟨#[]⟩, .slice A 4 k]) ∧ RdA (fun bl => w.heap.size + 2 ≤ bl) w2 (tR c s e m) (.agg #[.int .i64 3, .int .i64 0, .string ⟨#[]⟩, .slice A 4 k]) ∧ RB w s e b w2
theorem list_row {w : World} {s e : Int} {b : Bool} (c m : Int) {w1 : World} (h : RB w s e b w1) : Calls Tryd.prog 27 #[.slice (some ⟨w1.heap.size, 0, none⟩) 4 4] (w1.alloc (.cells (rcells c s e m).toArray 68)) (LPost w s e b c m) := by
  have hs1 : w.heap.size + 1 < w1.heap.size := h.r.lt
  have hb1 : Below w1.heap.size w1 (w1.alloc (.cells (rcells c s e m).toArray 68)) := (Below.refl _ _).alloc (Nat.le_refl _) _
  refine (list_any (some ⟨w1.heap.size, 0, none⟩) 4 4 Tr (rcells c s e m) _ (reads_new (n := 4) rfl) (by omega) (rcells_one c s e m)).mono ?_
  rintro en w2 ⟨v, rfl, hown, hb⟩
  obtain ⟨A', k', rfl, hk1, hk2⟩ := own_shape hown
  have hsz : (w1.alloc (.cells (rcells c s e m).toArray 68)).heap.size = w1.heap.size + 1 := by simp
  refine ⟨A', k', rfl, ⟨A', k', rcells c s e m, rfl, by simp [tR, T.s, maxLen], by simpa [tR, T.l] using hk1, hk2, ?_, rdl4 c s e m w2 _⟩, h.on (hb1.trans (hb.mono (by omega)))⟩
  exact (ReadsP.of_own hown).mono (fun bl hbl _ => by simp only [hsz] at hbl; omega)
set_option maxHeartbeats 8000000 in
theorem row_any (c s e : Int) (b : Bool) (w : World) : Calls Tryd.prog 25 #[.int .i64 c, .agg #[.int .i64 s, .int .i64 e, .bool b]] w fun en w' => ∃ A k, en = .returned (.agg #[.int .i64 3, .int .i64 0, .string ⟨#[]⟩, .slice A 4 k]) ∧ RdA (fun bl => w.heap.size ≤ bl) w' (tR c s e (if b then 1 else 0)) (.agg #[.int .i64 3, .int .i64 0, .string ⟨#[]⟩, .slice A 4 k]) ∧ Below w.heap.size w w' := by
  obtain ⟨W, hW⟩ : ∃ W, (w.alloc (.cells #[.int .i64 s, .int .i64 e, .bool b] 56)).alloc (.cells #[.int .i64 0, .int .i64 0, .string ⟨#[]⟩, .slice none 0 0] 68) = W := ⟨_, rfl⟩
  have h0 : RB w s e b W := by
    rw [← hW]
    refine ⟨((Below.refl _ _).alloc (Nat.le_refl _) _).alloc (by simp) _, (Row.new w _ [.int .i64 s, .int .i64 e, .bool b]).al _, ?_⟩
    have := Row.new (w.alloc (.cells #[.int .i64 s, .int .i64 e, .bool b] 56)) 68 [.int .i64 0, .int .i64 0, .string ⟨#[]⟩, .slice none 0 0]
    simpa using this
  have h1 : RB w s e b W.drew := h0.on ((Below.refl _ W).drew)
  have HI := Lib.hid (show ∀ (n : Int) (w1 : World), RB w s e b w1 → Calls Tryd.prog 33 #[.int .i64 n] w1 (fun en w2 => en = .returned (.agg #[.int .i64 1, .int .i64 n, .string ⟨#[]⟩, .slice none 0 0]) ∧ RB w s e b w2 ∧ (w2.cell? ⟨w.heap.size, 0, none⟩ = some (.int .i64 s) ∧ w2.cell? ⟨w.heap.size, 1, none⟩ = some (.int .i64 e))) from fun n w1 hr => by
    refine (int_any n w1).mono ?_
    rintro en w2 ⟨rfl, hb⟩
    exact ⟨rfl, hr.on hb, (hr.on hb).cells⟩)
  obtain ⟨c0, c1⟩ := h0.cells
  have c2 : W.cell? ⟨w.heap.size, 2, none⟩ = some (.bool b) := h0.x.cell rfl
  have H0 := Lib.hid h0
  have H1 := Lib.hid h1
  clear h0 h1
  have hWl := Lib.hid hW
  clear hW
  have HL := Lib.hid (fun (m : Int) (w1 : World) (h : RB w s e b w1) => list_row c m h)
  rcases b with _ | _
  · go_enter Tryd.func25, Tryd.ntmps25
    go_wp2_with fail
    rw [hWl.out]
    go_wp2_with fail
    go_region_held3 (fun w' => w'.cell? ⟨w.heap.size, 0, none⟩ = some (.int .i64 s) ∧ w'.cell? ⟨w.heap.size, 1, none⟩ = some (.int .i64 e))
      (first | exact ⟨c0, c1⟩ | exact HS4.out | go_keep)
      (first
        | (go_at_call 33; with_reducible refine (HI.out _ _ H1.out).mono ?_; intro en w4 hpost; obtain ⟨rfl, ha4, hs4⟩ := hpost; have HS4 := Lib.hid hs4; have HA4 := Lib.hid ha4; clear ha4 hs4)
        | (go_at_call 33; with_reducible refine (HI.out _ _ HA4.out).mono ?_; clear HS4; intro en w4 hpost; obtain ⟨rfl, ha4, hs4⟩ := hpost; have HS4 := Lib.hid hs4; have HA4 := Lib.hid ha4; clear ha4 hs4)
        | (go_at_call 27; refine (HL.out 0 _ HA4.out).mono ?_; clear HS4; intro en w5 hpost; obtain ⟨A', k', rfl, hRA, hR5⟩ := hpost; obtain ⟨k0, k1, k2, k3, k4, k5⟩ := hR5.res; have HS4 := Lib.hid hR5.cells))
    go_wp2_with fail
    refine bodyPost_ret (v := .agg #[.int .i64 3, .int .i64 0, .string ⟨#[]⟩, .slice A' 4 k']) (by simp [results, Tryd.results25, go_sem, k0, k1, k2, k3, k5]) rfl ⟨_, _, rfl, ?_, ?_⟩
    · exact (hRA.keep ((((Keeps.setCell (Keeps.refl _ _) ⟨w.heap.size + 1, 0, none⟩ (by simp) _).setCell ⟨w.heap.size + 1, 1, none⟩ (by simp) _).setCell ⟨w.heap.size + 1, 2, none⟩ (by simp) _).setCell ⟨w.heap.size + 1, 3, none⟩ (by simp) _)).mono (fun b hb _ => by omega)
    · exact (((hR5.below.setCell (by simp) _).setCell (by simp) _).setCell (by simp) _).setCell (by simp) _
  · go_enter Tryd.func25, Tryd.ntmps25
    go_wp2_with fail
    rw [hWl.out]
    go_wp2_with fail
    go_region_held3 (fun w' => w'.cell? ⟨w.heap.size, 0, none⟩ = some (.int .i64 s) ∧ w'.cell? ⟨w.heap.size, 1, none⟩ = some (.int .i64 e))
      (first | exact ⟨c0, c1⟩ | exact HS4.out | go_keep)
      (first
        | (go_at_call 33; with_reducible refine (HI.out _ _ H1.out).mono ?_; intro en w4 hpost; obtain ⟨rfl, ha4, hs4⟩ := hpost; have HS4 := Lib.hid hs4; have HA4 := Lib.hid ha4; clear ha4 hs4)
        | (go_at_call 33; with_reducible refine (HI.out _ _ HA4.out).mono ?_; clear HS4; intro en w4 hpost; obtain ⟨rfl, ha4, hs4⟩ := hpost; have HS4 := Lib.hid hs4; have HA4 := Lib.hid ha4; clear ha4 hs4)
        | (go_at_call 27; refine (HL.out 1 _ HA4.out).mono ?_; clear HS4; intro en w5 hpost; obtain ⟨A', k', rfl, hRA, hR5⟩ := hpost; obtain ⟨k0, k1, k2, k3, k4, k5⟩ := hR5.res; have HS4 := Lib.hid hR5.cells))
    go_wp2_with fail
    refine bodyPost_ret (v := .agg #[.int .i64 3, .int .i64 0, .string ⟨#[]⟩, .slice A' 4 k']) (by simp [results, Tryd.results25, go_sem, k0, k1, k2, k3, k5]) rfl ⟨_, _, rfl, ?_, ?_⟩
    · exact (hRA.keep ((((Keeps.setCell (Keeps.refl _ _) ⟨w.heap.size + 1, 0, none⟩ (by simp) _).setCell ⟨w.heap.size + 1, 1, none⟩ (by simp) _).setCell ⟨w.heap.size + 1, 2, none⟩ (by simp) _).setCell ⟨w.heap.size + 1, 3, none⟩ (by simp) _)).mono (fun b hb _ => by omega)
    · exact (((hR5.below.setCell (by simp) _).setCell (by simp) _).setCell (by simp) _).setCell (by simp) _
end Go.Proofs.YtbijaipoifpngaaDoor.Be
