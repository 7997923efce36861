/- A road that nobody made. Conditions: none. -/
import Derived.Test.YtikbgaomiliefaaRoCode
import Derived.Test.YtikbgaomiliefaaRoAwk
set_option linter.unusedVariables false
set_option linter.unusedSimpArgs false
set_option maxRecDepth 100000
namespace Go.Proofs.Ytikbgaomiliefaa.Ro
open Go Go.RowKit
/-- No road: none, or one of which nothing is set. -/
def NoR (w : World) (v : Value) : Prop := v = .pointer none ∨ ∃ X, v = ptr X ∧ w.cell? ⟨X, 0, none⟩ = some (.pointer none) ∧ X < w.heap.size
section
variable {w : World} {v : Value}
theorem NoR.on {w' : World} (h : NoR w v) (hb : Below w.heap.size w w') : NoR w' v := by
  rcases h with h | ⟨X, h, hc, hl⟩
  · exact .inl h
  · exact .inr ⟨X, h, (hb.cell (p := ⟨X, 0, none⟩) hl).trans hc, Nat.lt_of_lt_of_le hl hb.size⟩
theorem at_no (h : NoR w v) (to : Int) : Calls Try.prog 26 #[v, .int .i64 to] w fun e w' => e = .returned (.pointer none) ∧ w' = w := by
  rcases h with rfl | ⟨X, rfl, hc, hl⟩
  · go_enter Try.func26, Try.ntmps26
    go_wp2
    go_ret
    exact ⟨rfl, rfl⟩
  · have hn := neq_none X w
    go_enter Try.func26, Try.ntmps26
    go_wp2
    go_ret
    exact ⟨rfl, rfl⟩
theorem drop_no (h : NoR w v) (k a : Int) : Calls Try.prog 16 #[v, .int .i64 k, .int .i64 a] w fun e w' => e = .returned (.int .i64 1) ∧ w = w' := by
  have HA := Lib.hid (at_no h k)
  clear h
  go_enter Try.func16, Try.ntmps16
  go_wp2_with (with_reducible refine HA.out.mono ?_; rintro e w1 ⟨rfl, rfl⟩)
  go_ret
  exact ⟨rfl, rfl⟩
theorem twice_no (h : NoR w v) (k a : Int) : Calls Try.prog 18 #[v, .int .i64 k, .int .i64 a] w fun e w' => e = .returned (.int .i64 1) ∧ w = w' := by
  have HA := Lib.hid (at_no h k)
  clear h
  go_enter Try.func18, Try.ntmps18
  go_wp2_with (with_reducible refine HA.out.mono ?_; rintro e w1 ⟨rfl, rfl⟩)
  go_ret
  exact ⟨rfl, rfl⟩
theorem swap_no (h : NoR w v) (k a : Int) : Calls Try.prog 20 #[v, .int .i64 k, .int .i64 a] w fun e w' => e = .returned (.int .i64 1) ∧ w = w' := by
  have HA := Lib.hid (at_no h k)
  clear h
  go_enter Try.func20, Try.ntmps20
  go_wp2_with (with_reducible refine HA.out.mono ?_; rintro e w1 ⟨rfl, rfl⟩)
  go_ret
  exact ⟨rfl, rfl⟩
theorem clear_no (h : NoR w v) (k : Int) : Calls Try.prog 22 #[v, .int .i64 k] w fun e w' => e = .returned (.int .i64 1) ∧ w = w' := by
  have HA := Lib.hid (at_no h k)
  clear h
  go_enter Try.func22, Try.ntmps22
  go_wp2_with (with_reducible refine HA.out.mono ?_; rintro e w1 ⟨rfl, rfl⟩)
  go_ret
  exact ⟨rfl, rfl⟩
theorem waits_no (h : NoR w v) (k : Int) : Calls Try.prog 24 #[v, .int .i64 k] w fun e w' => e = .returned (.int .i64 0) ∧ w = w' := by
  have HA := Lib.hid (at_no h k)
  clear h
  go_enter Try.func24, Try.ntmps24
  go_wp2_with (with_reducible refine HA.out.mono ?_; rintro e w1 ⟨rfl, rfl⟩)
  go_ret
  exact ⟨rfl, rfl⟩
theorem send_no (h : NoR w v) (a b : Int) (t : ByteArray) : Calls Try.prog 12 #[v, .agg #[.int .i64 a, .int .i64 b, .string t]] w fun e w' => e = .returned (.int .i64 1) ∧ Below w.heap.size w w' := by
  obtain ⟨W, hW⟩ : ∃ W, W = w.alloc (.cells #[.int .i64 a, .int .i64 b, .string t] 34) := ⟨_, rfl⟩
  have hb : Below w.heap.size w W := by rw [hW]; exact (Below.refl _ w).alloc (Nat.le_refl _) _
  have HA := Lib.hid (at_no (h.on hb) b)
  have r0 : Row W w.heap.size 34 (lc (a, b, t)) := by rw [hW]; exact Row.new w _ _
  have l1 := r0.cell (j := 1) (u := .int .i64 b) rfl
  have ll := r0.lt
  have HB := Lib.hid hb
  have HW := Lib.hid hW
  clear h hb r0 hW
  go_enter Try.func12, Try.ntmps12
  go_wp2_with fail
  rw [← HW.out]
  with_reducible refine HA.out.mono ?_
  rintro e w1 ⟨rfl, rfl⟩
  go_wp2
  go_ret
  exact ⟨rfl, HB.out⟩
theorem next_no (h : NoR w v) (to : Int) : Calls Try.prog 14 #[v, .int .i64 to] w fun e w' => e = .returned (.tuple #[.agg #[.int .i64 0, .int .i64 0, .string ⟨#[]⟩], .int .i64 1]) ∧ Below w.heap.size w w' := by
  obtain ⟨W, hW⟩ : ∃ W, W = w.alloc (.cells #[.int .i64 0, .int .i64 0, .string ⟨#[]⟩] 34) := ⟨_, rfl⟩
  have hb : Below w.heap.size w W := by rw [hW]; exact (Below.refl _ w).alloc (Nat.le_refl _) _
  have HA := Lib.hid (at_no (h.on hb) to)
  have r0 : Row W w.heap.size 34 [.int .i64 0, .int .i64 0, .string ⟨#[]⟩] := by rw [hW]; exact Row.new w _ _
  have l0 := r0.cell (j := 0) (u := .int .i64 0) rfl
  have l1 := r0.cell (j := 1) (u := .int .i64 0) rfl
  have l2 := r0.cell (j := 2) (u := .string ⟨#[]⟩) rfl
  have lf0 := r0.frozen 0
  have lf1 := r0.frozen 1
  have lf2 := r0.frozen 2
  have ll := r0.lt
  have HZ := Lib.hid (next_nix (l0 := noL) (w := w) hW)
  have HW := Lib.hid hW
  clear h hb r0 hW
  go_enter Try.func14, Try.ntmps14
  go_wp2_with fail
  rw [← HW.out]
  with_reducible refine HA.out.mono ?_
  rintro e w1 ⟨rfl, rfl⟩
  go_wp2
  have HRO := HZ.out
  clear HZ
  generalize ((w1.setCell ⟨w.heap.size, 0, none⟩ (.int .i64 0)).setCell ⟨w.heap.size, 1, none⟩ (.int .i64 0)).setCell ⟨w.heap.size, 2, none⟩ (.string ⟨#[]⟩) = WF at *
  obtain ⟨hbf, g0, g1, g2⟩ := HRO
  refine bodyPost_ret (v := .tuple #[.agg #[.int .i64 0, .int .i64 0, .string ⟨#[]⟩], .int .i64 1]) (by simp [results, Try.results14, go_sem, g0, g1, g2]) rfl ?_
  exact ⟨rfl, hbf⟩
end
theorem row_on {w w2 : World} {g : Nat} {T : TypeId} {xs : List Value} (h : Row w g T xs) (hb : Below w.heap.size w w2) : Row w2 g T xs := h.keep (hb.block _ h.lt)
def zroad : List Value := [.pointer none, .int .i64 0, .slice none 0 0, .slice none 0 0, .slice none 0 0, .slice none 0 0, .slice none 0 0, .slice none 0 0, .slice none 0 0, .slice none 0 0, .slice none 0 0]
/-- What lies beside: the letter, a road that nobody made, the list of both. -/
structure NB (w : World) (l : Lt) (w' : World) : Prop where
  bel : Below w.heap.size w w'
  let_ : Row w' w.heap.size 34 (lc l)
  tab : Row w' (w.heap.size + 1) 62 zroad
  lst : Row w' (w.heap.size + 1 + 1) 23 [.pointer none, ptr (w.heap.size + 1)]
theorem NB.on {w w1 w2 : World} {l : Lt} (h : NB w l w1) (hb : Below w1.heap.size w1 w2) : NB w l w2 := ⟨h.bel.trans (hb.mono h.bel.size), row_on h.let_ hb, row_on h.tab hb, row_on h.lst hb⟩
theorem NB.no {w w1 : World} {l : Lt} (h : NB w l w1) : NoR w1 (ptr (w.heap.size + 1)) := .inr ⟨_, rfl, h.tab.cell rfl, h.tab.lt⟩
structure NM (w : World) (l : Lt) (R i : Nat) (v : Value) (w' : World) : Prop where
  nb : NB w l w'
  row : Row w' R 34 [.int .i64 0, .int .i64 0, .string ⟨#[]⟩]
  at_ : w'.cell? ⟨w.heap.size + 1 + 1, i, none⟩ = some v
theorem NM.on {w w1 w2 : World} {l : Lt} {v : Value} {R i : Nat} (h : NM w l R i v w1) (hb : Below w1.heap.size w1 w2) : NM w l R i v w2 := ⟨h.nb.on hb, row_on h.row hb, (hb.cell (p := ⟨w.heap.size + 1 + 1, i, none⟩) h.nb.lst.lt).trans h.at_⟩
def NMS (w : World) (l : Lt) (R i : Nat) (v : Value) (w' : World) : Prop := w'.cell? ⟨R, 0, none⟩ = some (.int .i64 0) ∧ w'.cell? ⟨R, 1, none⟩ = some (.int .i64 0) ∧ w'.cell? ⟨R, 2, none⟩ = some (.string ⟨#[]⟩) ∧ w'.cell? ⟨w.heap.size + 1 + 1, i, none⟩ = some v ∧ w'.cell? ⟨w.heap.size, 0, none⟩ = some (.int .i64 l.1) ∧ w'.cell? ⟨w.heap.size, 1, none⟩ = some (.int .i64 l.2.1) ∧ w'.cell? ⟨w.heap.size, 2, none⟩ = some (.string l.2.2)
theorem NM.cells {w w1 : World} {l : Lt} {v : Value} {R i : Nat} (h : NM w l R i v w1) : NMS w l R i v w1 := ⟨h.row.cell rfl, h.row.cell rfl, h.row.cell rfl, h.at_, h.nb.let_.cell rfl, h.nb.let_.cell rfl, h.nb.let_.cell rfl⟩
theorem nb_start (w : World) (l : Lt) : NB w l (((w.alloc (.cells #[.int .i64 l.1, .int .i64 l.2.1, .string l.2.2] 34)).alloc (.cells zroad.toArray 62)).alloc (.cells #[.pointer none, ptr (w.heap.size + 1)] 23)) := by
  refine ⟨(((Below.refl _ _).alloc (Nat.le_refl _) _).alloc (by simp) _).alloc (by simp; omega) _, ?_, ?_, ?_⟩
  · exact ((Row.new w 34 (lc l)).keep (heap_alloc_lt _ _ (by simp))).keep (heap_alloc_lt _ _ (by simp; omega))
  · have h := Row.new (w.alloc (.cells #[.int .i64 l.1, .int .i64 l.2.1, .string l.2.2] 34)) 62 zroad
    rw [World.size_alloc] at h
    exact h.keep (heap_alloc_lt _ _ (by simp))
  · have h := Row.new ((w.alloc (.cells #[.int .i64 l.1, .int .i64 l.2.1, .string l.2.2] 34)).alloc (.cells zroad.toArray 62)) 23 [.pointer none, ptr (w.heap.size + 1)]
    rw [World.size_alloc, World.size_alloc] at h
    exact h
set_option maxHeartbeats 8000000 in
theorem nobody_walk (n : Int) (l : Lt) (w : World) : Calls Try.prog 7 #[.int .i64 n, .agg #[.int .i64 l.1, .int .i64 l.2.1, .string l.2.2]] w (Gives (.bool true) w) := by
  have HA := Lib.hid (awake_any code)
  have H0 := Lib.hid (nb_start w l)
  go_enter Try.func7, Try.ntmps7
  go_wp2_with fail
  go_loopw [6] (fun vi wr => ∃ i : Nat, vi = .int .i64 (i : Int) ∧ i ≤ 2 ∧ NB w l wr) (fun vi _ => 2 - (intOf vi).toNat)
  case atStart => exact ⟨0, rfl, by omega, H0.out⟩
  case round =>
    obtain ⟨i, rfl, hi, hN⟩ := hrel
    obtain rfl | rfl | rfl : i = 0 ∨ i = 1 ∨ i = 2 := by omega
    · have hno : ∀ w1, NB w l w1 → NoR w1 (.pointer none) := fun w1 h => .inl rfl
      have hfi := next_no (hno _ hN) n
      have cl : wr.cell? ⟨w.heap.size + 1 + 1, 0, none⟩ = some (.pointer none) := hN.lst.cell rfl
      have HN := Lib.hid hN
      have HG := Lib.hid hno
      clear hN hno
      go_wp2_with fail
      refine hfi.mono ?_
      rintro en w5 ⟨rfl, hb5⟩
      obtain ⟨R, hR⟩ : ∃ R, w5.heap.size = R := ⟨_, rfl⟩
      have hM : NM w l R 0 (.pointer none) (w5.alloc (.cells #[.int .i64 0, .int .i64 0, .string ⟨#[]⟩] 34)) := by
        have h5 := HN.out.on hb5
        refine ⟨h5.on ((Below.refl _ _).alloc (Nat.le_refl _) _), ?_, ?_⟩
        · rw [← hR]
          exact Row.new w5 34 [.int .i64 0, .int .i64 0, .string ⟨#[]⟩]
        · exact (row_on h5.lst ((Below.refl _ _).alloc (Nat.le_refl _) _)).cell rfl
      clear hfi cl
      go_wp2_with fail
      generalize w5.alloc (.cells #[.int .i64 0, .int .i64 0, .string ⟨#[]⟩] 34) = W5 at *
      have cs := hM.cells
      have HM1 := Lib.hid (hM.on ((Below.refl _ W5).drew))
      have HS := Lib.hid (show ∀ w1, NM w l R 0 (.pointer none) w1 → Calls Try.prog 12 #[(.pointer none), .agg #[.int .i64 l.1, .int .i64 l.2.1, .string l.2.2]] w1 (fun en w2 => en = .returned (.int .i64 1) ∧ NM w l R 0 (.pointer none) w2 ∧ NMS w l R 0 (.pointer none) w2) from fun w1 h => by
        refine (send_no (HG.out w1 h.nb) l.1 l.2.1 l.2.2).mono ?_
        rintro en w2 ⟨rfl, hb⟩
        exact ⟨rfl, h.on hb, (h.on hb).cells⟩)
      have HD := Lib.hid (show ∀ w1, NM w l R 0 (.pointer none) w1 → _ from fun w1 h => drop_no (HG.out w1 h.nb) n n)
      have HT := Lib.hid (show ∀ w1, NM w l R 0 (.pointer none) w1 → _ from fun w1 h => twice_no (HG.out w1 h.nb) n n)
      have HP := Lib.hid (show ∀ w1, NM w l R 0 (.pointer none) w1 → _ from fun w1 h => swap_no (HG.out w1 h.nb) n n)
      have HC := Lib.hid (show ∀ w1, NM w l R 0 (.pointer none) w1 → _ from fun w1 h => clear_no (HG.out w1 h.nb) n)
      have HW := Lib.hid (show ∀ w1, NM w l R 0 (.pointer none) w1 → _ from fun w1 h => waits_no (HG.out w1 h.nb) n)
      clear hM
      unfold NMS at cs
      go_region_held3 (fun w' => w'.cell? ⟨R, 0, none⟩ = some (.int .i64 0) ∧ w'.cell? ⟨R, 1, none⟩ = some (.int .i64 0) ∧ w'.cell? ⟨R, 2, none⟩ = some (.string ⟨#[]⟩) ∧ w'.cell? ⟨w.heap.size + 1 + 1, 0, none⟩ = some (.pointer none) ∧ w'.cell? ⟨w.heap.size, 0, none⟩ = some (.int .i64 l.1) ∧ w'.cell? ⟨w.heap.size, 1, none⟩ = some (.int .i64 l.2.1) ∧ w'.cell? ⟨w.heap.size, 2, none⟩ = some (.string l.2.2))
        (first | exact cs | exact HS4.out | go_keep)
        (first
          | (go_at_call 12; with_reducible refine (HS.out _ HM1.out).mono ?_; intro en w4 hpost; obtain ⟨rfl, ha4, hs4⟩ := hpost; have HS4 := Lib.hid hs4; have HA4 := Lib.hid ha4; clear ha4 hs4)
          | (go_at_call 16; with_reducible refine (HD.out _ HA4.out).mono ?_; intro en w6 hpost; obtain ⟨rfl, rfl⟩ := hpost)
          | (go_at_call 18; with_reducible refine (HT.out _ HA4.out).mono ?_; intro en w6 hpost; obtain ⟨rfl, rfl⟩ := hpost)
          | (go_at_call 20; with_reducible refine (HP.out _ HA4.out).mono ?_; intro en w6 hpost; obtain ⟨rfl, rfl⟩ := hpost)
          | (go_at_call 24; with_reducible refine (HW.out _ HA4.out).mono ?_; intro en w6 hpost; obtain ⟨rfl, rfl⟩ := hpost)
          | (go_at_call 22; with_reducible refine (HC.out _ HA4.out).mono ?_; intro en w6 hpost; obtain ⟨rfl, rfl⟩ := hpost))
      go_wp2_with fail
      exact ⟨⟨1, rfl, by omega, HA4.out.nb⟩, by simp [intOf]⟩
    · have hno : ∀ w1, NB w l w1 → NoR w1 (ptr (w.heap.size + 1)) := fun w1 h => h.no
      have hfi := next_no (hno _ hN) n
      have cl : wr.cell? ⟨w.heap.size + 1 + 1, 1, none⟩ = some (ptr (w.heap.size + 1)) := hN.lst.cell rfl
      have HN := Lib.hid hN
      have HG := Lib.hid hno
      clear hN hno
      go_wp2_with fail
      refine hfi.mono ?_
      rintro en w5 ⟨rfl, hb5⟩
      obtain ⟨R, hR⟩ : ∃ R, w5.heap.size = R := ⟨_, rfl⟩
      have hM : NM w l R 1 (ptr (w.heap.size + 1)) (w5.alloc (.cells #[.int .i64 0, .int .i64 0, .string ⟨#[]⟩] 34)) := by
        have h5 := HN.out.on hb5
        refine ⟨h5.on ((Below.refl _ _).alloc (Nat.le_refl _) _), ?_, ?_⟩
        · rw [← hR]
          exact Row.new w5 34 [.int .i64 0, .int .i64 0, .string ⟨#[]⟩]
        · exact (row_on h5.lst ((Below.refl _ _).alloc (Nat.le_refl _) _)).cell rfl
      clear hfi cl
      go_wp2_with fail
      generalize w5.alloc (.cells #[.int .i64 0, .int .i64 0, .string ⟨#[]⟩] 34) = W5 at *
      have cs := hM.cells
      have HM1 := Lib.hid (hM.on ((Below.refl _ W5).drew))
      have HS := Lib.hid (show ∀ w1, NM w l R 1 (ptr (w.heap.size + 1)) w1 → Calls Try.prog 12 #[(ptr (w.heap.size + 1)), .agg #[.int .i64 l.1, .int .i64 l.2.1, .string l.2.2]] w1 (fun en w2 => en = .returned (.int .i64 1) ∧ NM w l R 1 (ptr (w.heap.size + 1)) w2 ∧ NMS w l R 1 (ptr (w.heap.size + 1)) w2) from fun w1 h => by
        refine (send_no (HG.out w1 h.nb) l.1 l.2.1 l.2.2).mono ?_
        rintro en w2 ⟨rfl, hb⟩
        exact ⟨rfl, h.on hb, (h.on hb).cells⟩)
      have HD := Lib.hid (show ∀ w1, NM w l R 1 (ptr (w.heap.size + 1)) w1 → _ from fun w1 h => drop_no (HG.out w1 h.nb) n n)
      have HT := Lib.hid (show ∀ w1, NM w l R 1 (ptr (w.heap.size + 1)) w1 → _ from fun w1 h => twice_no (HG.out w1 h.nb) n n)
      have HP := Lib.hid (show ∀ w1, NM w l R 1 (ptr (w.heap.size + 1)) w1 → _ from fun w1 h => swap_no (HG.out w1 h.nb) n n)
      have HC := Lib.hid (show ∀ w1, NM w l R 1 (ptr (w.heap.size + 1)) w1 → _ from fun w1 h => clear_no (HG.out w1 h.nb) n)
      have HW := Lib.hid (show ∀ w1, NM w l R 1 (ptr (w.heap.size + 1)) w1 → _ from fun w1 h => waits_no (HG.out w1 h.nb) n)
      clear hM
      unfold NMS at cs
      go_region_held3 (fun w' => w'.cell? ⟨R, 0, none⟩ = some (.int .i64 0) ∧ w'.cell? ⟨R, 1, none⟩ = some (.int .i64 0) ∧ w'.cell? ⟨R, 2, none⟩ = some (.string ⟨#[]⟩) ∧ w'.cell? ⟨w.heap.size + 1 + 1, 1, none⟩ = some (ptr (w.heap.size + 1)) ∧ w'.cell? ⟨w.heap.size, 0, none⟩ = some (.int .i64 l.1) ∧ w'.cell? ⟨w.heap.size, 1, none⟩ = some (.int .i64 l.2.1) ∧ w'.cell? ⟨w.heap.size, 2, none⟩ = some (.string l.2.2))
        (first | exact cs | exact HS4.out | go_keep)
        (first
          | (go_at_call 12; with_reducible refine (HS.out _ HM1.out).mono ?_; intro en w4 hpost; obtain ⟨rfl, ha4, hs4⟩ := hpost; have HS4 := Lib.hid hs4; have HA4 := Lib.hid ha4; clear ha4 hs4)
          | (go_at_call 16; with_reducible refine (HD.out _ HA4.out).mono ?_; intro en w6 hpost; obtain ⟨rfl, rfl⟩ := hpost)
          | (go_at_call 18; with_reducible refine (HT.out _ HA4.out).mono ?_; intro en w6 hpost; obtain ⟨rfl, rfl⟩ := hpost)
          | (go_at_call 20; with_reducible refine (HP.out _ HA4.out).mono ?_; intro en w6 hpost; obtain ⟨rfl, rfl⟩ := hpost)
          | (go_at_call 24; with_reducible refine (HW.out _ HA4.out).mono ?_; intro en w6 hpost; obtain ⟨rfl, rfl⟩ := hpost)
          | (go_at_call 22; with_reducible refine (HC.out _ HA4.out).mono ?_; intro en w6 hpost; obtain ⟨rfl, rfl⟩ := hpost))
      go_wp2_with fail
      exact ⟨⟨2, rfl, by omega, HA4.out.nb⟩, by simp [intOf]⟩
    · have haw := HA.out wr
      have hbel := hN.bel
      clear hN
      go_wp2_with (refine haw.mono ?_; rintro en w9 ⟨rfl, hb9⟩)
      go_ret
      exact ⟨rfl, hbel.trans (hb9.mono hbel.size)⟩
end Go.Proofs.Ytikbgaomiliefaa.Ro
