/- BencLong: it returns true. Conditions: Go's table of powers of ten lies as start-up lays it. -/
import Derived.Test.YtcgcocnbjijdaaaDoorLongB
import Derived.Test.YtcgcocnbjijdaaaDoorLawD
import Derived.Deep.OwnRows
import Derived.Laws.IdiomStrings
set_option linter.unusedVariables false
set_option linter.unusedSimpArgs false
namespace Go.Proofs.YtcgcocnbjijdaaaDoor
open Go Go.RowKit

theorem made_zero (n : Nat) : (madeCells (Value.int .u8 0).cells (n * 1)).toList = Lib.byteCells (List.replicate n (0 : UInt8)) := by
  simp [madeCells, Value.cells, Lib.byteCells]
  refine List.ext_getElem (by simp) ?_
  intro i h1 h2
  simp [Nat.mod_one]
def zS (n : Nat) : ByteArray := ⟨(List.replicate n (0 : UInt8)).toArray⟩
theorem zS_size (n : Nat) : (zS n).size = n := by
  show (List.replicate n (0 : UInt8)).toArray.size = n
  simp
def zT (n : Nat) : T := .mk 2 0 (zS n) []
theorem zT_len (k : Nat) (hk : k ≤ 3) : (enc (zT (65528 + k))).length = 65534 + k := by
  have h : (Lib.itoa (65528 + k : Nat)).length = 5 := by
    obtain rfl | rfl | rfl | rfl : k = 0 ∨ k = 1 ∨ k = 2 ∨ k = 3 := by omega
    all_goals decide +kernel
  unfold zT
  rw [enc_text]
  rw [List.length_append, List.length_cons, show (zS (65528 + k)).data.toList = List.replicate (65528 + k) 0 from rfl, List.length_replicate, zS_size, h]
  omega
theorem zT_rd (n : Nat) (hn : n ≤ 100000) (w : World) (ok : Nat → Prop) : RdA ok w (zT n) (.agg #[.int .i64 2, .int .i64 0, .string (zS n), .slice none 0 0]) :=
  ⟨none, 0, [], rfl, by show (zS n).size ≤ maxLen; rw [zS_size]; unfold maxLen; omega, Nat.le_refl _, Nat.zero_le _, ReadsP.none_, rfl⟩
theorem zT_no (k : Nat) (hk : k ≤ 3) : gdT (zT (65528 + k)) 0 [] = decide (k ≤ 2) := by
  have h := zT_len k hk
  have e : gdT (zT (65528 + k)) 0 [] = decide ((enc (zT (65528 + k))).length ≤ 65536) := by simp [gdT, zT, kindsOk, deepT]
  rw [e, h]
  by_cases h2 : k ≤ 2
  · rw [decide_eq_true h2, decide_eq_true (by omega)]
  · rw [decide_eq_false h2, decide_eq_false (by omega)]
theorem conv_zero {w : World} {B n : Nat} {v : Value} (hn : 0 < n) (hown : w.ownsRow B 5 1 v n (Lib.byteCells (List.replicate n (0 : UInt8)))) : (convert 42 9 v).run Tryd.prog w = .ok (.string (zS n)) w := by
  have h : w.ownsRow B 5 1 v (List.replicate n (0 : UInt8)).length (Lib.byteCells (List.replicate n (0 : UInt8))) := by rw [List.length_replicate]; exact hown
  exact conv_row h (by rw [List.length_replicate]; exact hn) 42 9 Tryd.underlying42 Tryd.underlying9
theorem zT_tidy (n : Nat) : tidy (zT n) = zT n := by simp [zT, tidy, tidyL]
/-- The value's bytes. -/
def zP (n : Nat) : ByteArray := ⟨(enc (zT n)).toArray⟩
theorem zP_size (k : Nat) (hk : k ≤ 3) : (zP (65528 + k)).size = 65534 + k := by
  show (enc (zT (65528 + k))).toArray.size = _
  rw [List.size_toArray]
  exact zT_len k hk
theorem zP_take (k : Nat) (hk : k ≤ 2) (w : World) : Calls Tryd.prog 14 #[.string (zP (65528 + k))] w (TOut (zT (65528 + k), (zP (65528 + k)).size, 0) w) := by
  have hsz := zP_size k (by omega)
  have hg : gdT (zT (65528 + k)) 0 [] = true := by rw [zT_no k (by omega)]; exact decide_eq_true hk
  have hp : PutIs (zT (65528 + k)) (zP (65528 + k)) 0 := by unfold PutIs; rw [if_pos hg]; exact ⟨rfl, rfl⟩
  have hb := (back_res ByteArray.empty hp (by simp [zT, wfT, wfL])).1
  rw [ByteArray.append_empty, zT_tidy] at hb
  exact (take_any _ (by omega) w).mono (fun _ _ h => tout_of hb h)
theorem zP_put (k : Nat) (hk : k ≤ 2) (w : World) (hT : Tabs w w.heap.size) : Calls Tryd.prog 12 #[.agg #[.int .i64 2, .int .i64 0, .string (zS (65528 + k)), .slice none 0 0]] w fun e w' => e = .returned (.tuple #[.string (zP (65528 + k)), .int .i64 0]) ∧ Below w.heap.size w w' := by
  have hg : gdT (zT (65528 + k)) 0 [] = true := by rw [zT_no k (by omega)]; exact decide_eq_true hk
  refine (put_any (zT (65528 + k)) _ w (zT_rd _ (by omega) _ _) (by simp [zT, wt, wtL]) (by simp [zT, wfT, wfL]) hT).mono ?_
  rintro e w' ⟨hb, h⟩
  rw [if_pos hg] at h
  exact ⟨h, hb⟩
theorem zP_no (k : Nat) (hk : k = 3) (w : World) (hT : Tabs w w.heap.size) : Calls Tryd.prog 12 #[.agg #[.int .i64 2, .int .i64 0, .string (zS (65528 + k)), .slice none 0 0]] w fun e w' => e = .returned (.tuple #[.string ⟨#[]⟩, .int .i64 23]) ∧ Below w.heap.size w w' := by
  have hg : ¬ gdT (zT (65528 + k)) 0 [] = true := by rw [zT_no k (by omega), decide_eq_false (by omega)]; simp
  refine (put_any (zT (65528 + k)) _ w (zT_rd _ (by omega) _ _) (by simp [zT, wt, wtL]) (by simp [zT, wfT, wfL]) hT).mono ?_
  rintro e w' ⟨hb, h⟩
  rw [if_neg hg] at h
  obtain ⟨x, he, hx⟩ := h
  have := hx.2.2 (by simp [zT, kindsOk, kindsOkL]) (by simp [zT, T.k])
  subst this
  exact ⟨he, hb⟩
theorem row_z (w : World) (n : Nat) (hn : 0 < n) : (convert 42 9 (.slice (some ⟨w.heap.size, 0, none⟩) n n)).run Tryd.prog (w.alloc (.cells (madeCells #[.int .u8 0] n) 5)) = .ok (.string (zS n)) (w.alloc (.cells (madeCells #[.int .u8 0] n) 5)) := by
  have h := run_convert_bytes_back (P := Tryd.prog) (w.alloc (.cells (madeCells #[.int .u8 0] n) 5)) 42 9 5 ⟨w.heap.size, 0, none⟩ n (List.replicate n 0) Tryd.underlying42 Tryd.underlying5 Tryd.underlying9 (fun j hj => by
    have hj2 : j < n := by simpa using hj
    rw [add_flat, Nat.zero_add, World.cell?_alloc_mark]
    simp [madeCells, hj2, Nat.mod_one])
  rw [List.length_replicate] at h
  exact h
end Go.Proofs.YtcgcocnbjijdaaaDoor
