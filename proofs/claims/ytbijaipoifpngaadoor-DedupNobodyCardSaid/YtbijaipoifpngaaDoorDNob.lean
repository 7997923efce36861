/- DedupNobody: its walk. Conditions: Go's table of powers of ten lies below. -/
import Derived.Test.YtbijaipoifpngaaDoorDAwk
import Derived.BigQuiet
import Derived.Deep.QuietTactic
set_option linter.unusedVariables false
set_option linter.unusedSimpArgs false
set_option maxRecDepth 100000
namespace Go.Proofs.YtbijaipoifpngaaDoor.Be
open Go Go.RowKit
theorem text_no (v : Value) (w : World) (hg : GivenIs v false w) : Calls Tryd.prog 15 #[v] w fun e w' => e = .returned (.string ⟨#[]⟩) ∧ w = w' := by
  unfold GivenIs at hg
  go_enter Tryd.func15, Tryd.ntmps15
  go_wp2_with (refine hg.mono ?_; rintro e w1 ⟨rfl, rfl⟩)
  go_ret
  exact ⟨rfl, rfl⟩
/-- What lies beside: the reply, a table that nobody made, the list of both. -/
structure NB (w : World) (e : Int) (b : Bool) (H : Value) (w' : World) : Prop where
  bel : Below w.heap.size w w'
  rep : Row w' w.heap.size 32 [.int .i64 e, .bool b, H]
  tab : Row w' (w.heap.size + 1) 59 (.pointer none :: qc q0)
  lst : Row w' (w.heap.size + 1 + 1) 23 [.pointer none, .pointer (some ⟨w.heap.size + 1, 0, none⟩)]
theorem NB.on {w w1 w2 : World} {e : Int} {b : Bool} {H : Value} (h : NB w e b H w1) (hb : Below w1.heap.size w1 w2) : NB w e b H w2 := ⟨h.bel.trans (hb.mono h.bel.size), h.rep.on hb, h.tab.on hb, h.lst.on hb⟩
structure NM (w : World) (e : Int) (b : Bool) (H : Value) (R i : Nat) (v : Value) (w' : World) : Prop where
  nb : NB w e b H w'
  row : Row w' R 32 [.int .i64 0, .bool false, .slice none 0 0]
  at_ : w'.cell? ⟨w.heap.size + 1 + 1, i, none⟩ = some v
theorem NM.on {w w1 w2 : World} {e : Int} {b : Bool} {H v : Value} {R i : Nat} (h : NM w e b H R i v w1) (hb : Below w1.heap.size w1 w2) : NM w e b H R i v w2 := ⟨h.nb.on hb, h.row.on hb, (hb.cell (p := ⟨w.heap.size + 1 + 1, i, none⟩) h.nb.lst.lt).trans h.at_⟩
def NMS (w : World) (e : Int) (b : Bool) (H : Value) (R i : Nat) (v : Value) (w' : World) : Prop := w'.cell? ⟨R, 0, none⟩ = some (.int .i64 0) ∧ w'.cell? ⟨R, 1, none⟩ = some (.bool false) ∧ w'.cell? ⟨w.heap.size + 1 + 1, i, none⟩ = some v ∧ w'.cell? ⟨w.heap.size, 0, none⟩ = some (.int .i64 e) ∧ w'.cell? ⟨w.heap.size, 1, none⟩ = some (.bool b) ∧ w'.cell? ⟨w.heap.size, 2, none⟩ = some H
theorem NM.cells {w w1 : World} {e : Int} {b : Bool} {H v : Value} {R i : Nat} (h : NM w e b H R i v w1) : NMS w e b H R i v w1 := ⟨h.row.cell rfl, h.row.cell rfl, h.at_, h.nb.rep.cell rfl, h.nb.rep.cell rfl, h.nb.rep.cell rfl⟩
set_option maxHeartbeats 8000000 in
theorem dedupNobody_walk (n e : Int) (b : Bool) (A : Option Addr) (ln cp : Nat) (w : World) (hT : Tabs w w.heap.size) : Calls Tryd.prog 7 #[.int .i64 n, .agg #[.int .i64 e, .bool b, .slice A ln cp]] w (Gives (.bool true) w) := by
  have hN0 : NB w e b (.slice A ln cp) (((w.alloc (.cells #[.int .i64 e, .bool b, .slice A ln cp] 32)).alloc (.cells #[.pointer none, .int .i64 0, .int .i64 0, .bool false, .int .i64 0, .int .i64 0, .bool false, .int .i64 0, .int .i64 0, .bool false, .int .i64 0, .int .i64 0, .bool false, .int .i64 0, .int .i64 0, .bool false, .int .i64 0, .int .i64 0, .bool false, .int .i64 0, .int .i64 0, .bool false, .int .i64 0, .int .i64 0, .bool false] 59)).alloc (.cells #[.pointer none, .pointer (some ⟨w.heap.size + 1, 0, none⟩)] 23)) := by
    refine ⟨(((Below.refl _ _).alloc (Nat.le_refl _) _).alloc (by simp) _).alloc (by simp; omega) _, ((Row.new w _ [.int .i64 e, .bool b, .slice A ln cp]).al _).al _, ?_, ?_⟩
    · have := (Row.new (w.alloc (.cells #[.int .i64 e, .bool b, .slice A ln cp] 32)) 59 (.pointer none :: qc q0)).al (.cells #[.pointer none, .pointer (some ⟨w.heap.size + 1, 0, none⟩)] 23)
      rw [show (w.alloc (.cells #[.int .i64 e, .bool b, .slice A ln cp] 32)).heap.size = w.heap.size + 1 by simp] at this
      exact this
    · have := Row.new ((w.alloc (.cells #[.int .i64 e, .bool b, .slice A ln cp] 32)).alloc (.cells #[.pointer none, .int .i64 0, .int .i64 0, .bool false, .int .i64 0, .int .i64 0, .bool false, .int .i64 0, .int .i64 0, .bool false, .int .i64 0, .int .i64 0, .bool false, .int .i64 0, .int .i64 0, .bool false, .int .i64 0, .int .i64 0, .bool false, .int .i64 0, .int .i64 0, .bool false, .int .i64 0, .int .i64 0, .bool false] 59)) 23 [.pointer none, .pointer (some ⟨w.heap.size + 1, 0, none⟩)]
      rw [show ((w.alloc (.cells #[.int .i64 e, .bool b, .slice A ln cp] 32)).alloc (.cells #[.pointer none, .int .i64 0, .int .i64 0, .bool false, .int .i64 0, .int .i64 0, .bool false, .int .i64 0, .int .i64 0, .bool false, .int .i64 0, .int .i64 0, .bool false, .int .i64 0, .int .i64 0, .bool false, .int .i64 0, .int .i64 0, .bool false, .int .i64 0, .int .i64 0, .bool false, .int .i64 0, .int .i64 0, .bool false] 59)).heap.size = w.heap.size + 1 + 1 by simp] at this
      exact this
  generalize hH : (Value.slice A ln cp) = H at *
  have H0 := Lib.hid hN0
  clear hN0
  go_enter Tryd.func7, Tryd.ntmps7
  go_wp2_with fail
  go_loopw [6] (fun vi wr => ∃ i : Nat, vi = .int .i64 (i : Int) ∧ i ≤ 2 ∧ NB w e b H wr) (fun vi _ => 2 - (intOf vi).toNat)
  case atStart => exact ⟨0, rfl, by omega, H0.out⟩
  case round =>
    obtain ⟨i, rfl, hi, hN⟩ := hrel
    obtain rfl | rfl | rfl : i = 0 ∨ i = 1 ∨ i = 2 := by omega
    · have hG : ∀ w1, NB w e b H w1 → GivenIs (.pointer none) false w1 := fun w1 h => given_nil _
      have hfi := find_arg (w := wr) (.pointer none) (g := false) (fun w1 hb => hG w1 (hN.on hb)) n n (.inl rfl)
      have cl : wr.cell? ⟨w.heap.size + 1 + 1, 0, none⟩ = some (.pointer none) := hN.lst.cell rfl
      have HN := Lib.hid hN
      have HG := Lib.hid hG
      simp only [repV] at hfi
      clear hN hG
      go_wp2_with fail
      refine hfi.mono ?_
      rintro en w5 ⟨rfl, hb5⟩
      obtain ⟨R, hR⟩ : ∃ R, w5.heap.size = R := ⟨_, rfl⟩
      have hM : NM w e b H R 0 (.pointer none) (w5.alloc (.cells #[.int .i64 0, .bool false, .slice none 0 0] 32)) := by
        have h5 := HN.out.on hb5
        refine ⟨h5.on ((Below.refl _ _).alloc (Nat.le_refl _) _), ?_, ?_⟩
        · rw [← hR]
          exact Row.new w5 32 [.int .i64 0, .bool false, .slice none 0 0]
        · exact (h5.lst.al _).cell rfl
      clear hfi cl
      go_wp2_with fail
      generalize w5.alloc (.cells #[.int .i64 0, .bool false, .slice none 0 0] 32) = W5 at *
      have cs := hM.cells
      have HM := Lib.hid hM
      have HM1 := Lib.hid (hM.on ((Below.refl _ W5).drew))
      have HP := Lib.hid (show ∀ w1, NM w e b H R 0 (.pointer none) w1 → Calls Tryd.prog 11 #[(.pointer none), .int .i64 n, .int .i64 n, .agg #[.int .i64 e, .bool b, H]] w1 (fun en w2 => en = .returned (.int .i64 1) ∧ NM w e b H R 0 (.pointer none) w2 ∧ NMS w e b H R 0 (.pointer none) w2) from fun w1 h => by
        refine (put_arg (w := w1) (.pointer none) (g := false) H e b (fun w2 hb => HG.out w2 (h.nb.on hb)) n n (.inl rfl)).mono ?_
        rintro en w2 ⟨rfl, hb⟩
        exact ⟨rfl, h.on hb, (h.on hb).cells⟩)
      have HL := Lib.hid (show ∀ w1, NM w e b H R 0 (.pointer none) w1 → Calls Tryd.prog 14 #[(.pointer none), .int .i64 n] w1 (fun en w2 => en = .returned (.int .i64 0) ∧ w1 = w2) from fun w1 h => last_no (.pointer none) w1 (HG.out w1 h.nb) n)
      have HX := Lib.hid (show ∀ w1, NM w e b H R 0 (.pointer none) w1 → Calls Tryd.prog 15 #[(.pointer none)] w1 (fun en w2 => en = .returned (.string ⟨#[]⟩) ∧ w1 = w2) from fun w1 h => text_no (.pointer none) w1 (HG.out w1 h.nb))
      clear hM
      unfold NMS at cs
      go_region_held3 (fun w' => w'.cell? ⟨R, 0, none⟩ = some (.int .i64 0) ∧ w'.cell? ⟨R, 1, none⟩ = some (.bool false) ∧ w'.cell? ⟨w.heap.size + 1 + 1, 0, none⟩ = some (.pointer none) ∧ w'.cell? ⟨w.heap.size, 0, none⟩ = some (.int .i64 e) ∧ w'.cell? ⟨w.heap.size, 1, none⟩ = some (.bool b) ∧ w'.cell? ⟨w.heap.size, 2, none⟩ = some H)
        (first | exact cs | exact HS4.out | go_keep)
        (first
          | (go_at_call 11; with_reducible refine (HP.out _ HM1.out).mono ?_; intro en w4 hpost; obtain ⟨rfl, ha4, hs4⟩ := hpost; have HS4 := Lib.hid hs4; have HA4 := Lib.hid ha4; clear ha4 hs4)
          | (go_at_call 14; with_reducible refine (HL.out _ HA4.out).mono ?_; intro en w6 hpost; obtain ⟨rfl, rfl⟩ := hpost)
          | (go_at_call 15; with_reducible refine (HX.out _ HA4.out).mono ?_; intro en w6 hpost; obtain ⟨rfl, rfl⟩ := hpost))
      go_wp2_with fail
      exact ⟨⟨1, rfl, by omega, HA4.out.nb⟩, by simp [intOf]⟩
    · have hG : ∀ w1, NB w e b H w1 → GivenIs (.pointer (some ⟨w.heap.size + 1, 0, none⟩)) false w1 := fun w1 h => given_not (h.tab.cell rfl)
      have hfi := find_arg (w := wr) (.pointer (some ⟨w.heap.size + 1, 0, none⟩)) (g := false) (fun w1 hb => hG w1 (hN.on hb)) n n (.inl rfl)
      have cl : wr.cell? ⟨w.heap.size + 1 + 1, 1, none⟩ = some (.pointer (some ⟨w.heap.size + 1, 0, none⟩)) := hN.lst.cell rfl
      have HN := Lib.hid hN
      have HG := Lib.hid hG
      simp only [repV] at hfi
      clear hN hG
      go_wp2_with fail
      refine hfi.mono ?_
      rintro en w5 ⟨rfl, hb5⟩
      obtain ⟨R, hR⟩ : ∃ R, w5.heap.size = R := ⟨_, rfl⟩
      have hM : NM w e b H R 1 (.pointer (some ⟨w.heap.size + 1, 0, none⟩)) (w5.alloc (.cells #[.int .i64 0, .bool false, .slice none 0 0] 32)) := by
        have h5 := HN.out.on hb5
        refine ⟨h5.on ((Below.refl _ _).alloc (Nat.le_refl _) _), ?_, ?_⟩
        · rw [← hR]
          exact Row.new w5 32 [.int .i64 0, .bool false, .slice none 0 0]
        · exact (h5.lst.al _).cell rfl
      clear hfi cl
      go_wp2_with fail
      generalize w5.alloc (.cells #[.int .i64 0, .bool false, .slice none 0 0] 32) = W5 at *
      have cs := hM.cells
      have HM := Lib.hid hM
      have HM1 := Lib.hid (hM.on ((Below.refl _ W5).drew))
      have HP := Lib.hid (show ∀ w1, NM w e b H R 1 (.pointer (some ⟨w.heap.size + 1, 0, none⟩)) w1 → Calls Tryd.prog 11 #[(.pointer (some ⟨w.heap.size + 1, 0, none⟩)), .int .i64 n, .int .i64 n, .agg #[.int .i64 e, .bool b, H]] w1 (fun en w2 => en = .returned (.int .i64 1) ∧ NM w e b H R 1 (.pointer (some ⟨w.heap.size + 1, 0, none⟩)) w2 ∧ NMS w e b H R 1 (.pointer (some ⟨w.heap.size + 1, 0, none⟩)) w2) from fun w1 h => by
        refine (put_arg (w := w1) (.pointer (some ⟨w.heap.size + 1, 0, none⟩)) (g := false) H e b (fun w2 hb => HG.out w2 (h.nb.on hb)) n n (.inl rfl)).mono ?_
        rintro en w2 ⟨rfl, hb⟩
        exact ⟨rfl, h.on hb, (h.on hb).cells⟩)
      have HL := Lib.hid (show ∀ w1, NM w e b H R 1 (.pointer (some ⟨w.heap.size + 1, 0, none⟩)) w1 → Calls Tryd.prog 14 #[(.pointer (some ⟨w.heap.size + 1, 0, none⟩)), .int .i64 n] w1 (fun en w2 => en = .returned (.int .i64 0) ∧ w1 = w2) from fun w1 h => last_no (.pointer (some ⟨w.heap.size + 1, 0, none⟩)) w1 (HG.out w1 h.nb) n)
      have HX := Lib.hid (show ∀ w1, NM w e b H R 1 (.pointer (some ⟨w.heap.size + 1, 0, none⟩)) w1 → Calls Tryd.prog 15 #[(.pointer (some ⟨w.heap.size + 1, 0, none⟩))] w1 (fun en w2 => en = .returned (.string ⟨#[]⟩) ∧ w1 = w2) from fun w1 h => text_no (.pointer (some ⟨w.heap.size + 1, 0, none⟩)) w1 (HG.out w1 h.nb))
      clear hM
      unfold NMS at cs
      go_region_held3 (fun w' => w'.cell? ⟨R, 0, none⟩ = some (.int .i64 0) ∧ w'.cell? ⟨R, 1, none⟩ = some (.bool false) ∧ w'.cell? ⟨w.heap.size + 1 + 1, 1, none⟩ = some (.pointer (some ⟨w.heap.size + 1, 0, none⟩)) ∧ w'.cell? ⟨w.heap.size, 0, none⟩ = some (.int .i64 e) ∧ w'.cell? ⟨w.heap.size, 1, none⟩ = some (.bool b) ∧ w'.cell? ⟨w.heap.size, 2, none⟩ = some H)
        (first | exact cs | exact HS4.out | go_keep)
        (first
          | (go_at_call 11; with_reducible refine (HP.out _ HM1.out).mono ?_; intro en w4 hpost; obtain ⟨rfl, ha4, hs4⟩ := hpost; have HS4 := Lib.hid hs4; have HA4 := Lib.hid ha4; clear ha4 hs4)
          | (go_at_call 14; with_reducible refine (HL.out _ HA4.out).mono ?_; intro en w6 hpost; obtain ⟨rfl, rfl⟩ := hpost)
          | (go_at_call 15; with_reducible refine (HX.out _ HA4.out).mono ?_; intro en w6 hpost; obtain ⟨rfl, rfl⟩ := hpost))
      go_wp2_with fail
      exact ⟨⟨2, rfl, by omega, HA4.out.nb⟩, by simp [intOf]⟩
    · have haw := awake_any w.heap.size wr (hT.on hN.bel) hN.bel.size
      have hbel := hN.bel
      clear hN
      go_wp2_with (refine haw.mono ?_; rintro en w9 ⟨rfl, hb9⟩)
      go_ret
      exact ⟨rfl, hbel.trans (hb9.mono hbel.size)⟩
end Go.Proofs.YtbijaipoifpngaaDoor.Be
