/- What awake returns: true. Conditions: Go's table of powers of ten lies as start-up lays it. -/
import Derived.Test.YtcgcocnbjijdaaaDoorPutA
import Derived.Test.YtcgcocnbjijdaaaDoorRefC
set_option linter.unusedVariables false
set_option linter.unusedSimpArgs false
namespace Go.Proofs.YtcgcocnbjijdaaaDoor
open Go Go.RowKit

def TW : T := .mk 3 0 .empty [.mk 1 12 .empty [], .mk 2 0 ⟨#[97, 98]⟩ []]
theorem itoa12 : Lib.itoa 12 = [49, 50] := by
  rw [show (12 : Int) = ((12 : Nat) : Int) from rfl, itoa_nat, dec_big (by decide), dec_small (by decide)]
  rfl
theorem itoa2 : Lib.itoa 2 = [50] := by
  rw [show (2 : Int) = ((2 : Nat) : Int) from rfl, itoa_nat, dec_small (by decide)]
  rfl
theorem enc_TW : enc TW = [108, 105, 49, 50, 101, 50, 58, 97, 98, 101] := by
  unfold TW
  rw [enc_list, encL, encL, encL, enc_num, enc_text, itoa12, show (((⟨#[97, 98]⟩ : ByteArray).size : Nat) : Int) = 2 from rfl, itoa2]
  rfl
theorem take_TW : takeRes [108, 105, 49, 50, 101, 50, 58, 97, 98, 101, 120] = .ok (tidy TW, 10) := by
  have h := rd_enc TW 0 [120] (by decide) (by decide) (by decide) (by rw [enc_TW]; decide)
  rw [enc_TW] at h
  unfold takeRes
  rw [show ([108, 105, 49, 50, 101, 50, 58, 97, 98, 101, 120] : List UInt8) = [108, 105, 49, 50, 101, 50, 58, 97, 98, 101] ++ [120] from rfl, h]
  rfl
theorem gd_TW : gdT TW 0 [] = true := by
  rw [gdT_iff]
  exact ⟨by decide, by decide, by rw [enc_TW]; decide⟩
/-- The constant list in memory. -/
theorem rd_TW (w : World) (b : Nat) (h : w.heap[b]? = some (.cells #[.int .i64 1, .int .i64 12, .string ⟨#[]⟩, .slice none 0 0, .int .i64 2, .int .i64 0, .string ⟨#[97, 98]⟩, .slice none 0 0] 24 (0, 0))) :
    RdA (fun x => x < b + 1) w TW (.agg #[.int .i64 3, .int .i64 0, .string ⟨#[]⟩, .slice (some ⟨b, 0, none⟩) 2 2]) := by
  refine ⟨some ⟨b, 0, none⟩, 2, [.int .i64 1, .int .i64 12, .string ⟨#[]⟩, .slice none 0 0, .int .i64 2, .int .i64 0, .string ⟨#[97, 98]⟩, .slice none 0 0], rfl, by decide, Nat.le_refl _, by decide, ⟨rfl, fun _ => ⟨_, rfl, by simp, (Array.getElem?_eq_some_iff.1 h).1, by simp [World.frozen?, h], fun j u hu => ?_⟩⟩, ?_⟩
  · rw [add_flat, Nat.zero_add]
    simp only [World.cell?, h]
    simpa using hu
  · refine ⟨[.int .i64 1, .int .i64 12, .string ⟨#[]⟩, .slice none 0 0], [.int .i64 2, .int .i64 0, .string ⟨#[97, 98]⟩, .slice none 0 0], rfl, ?_, [.int .i64 2, .int .i64 0, .string ⟨#[97, 98]⟩, .slice none 0 0], [], rfl, ?_, rfl⟩
    · exact ⟨none, 0, [], rfl, by decide, Nat.le_refl _, by decide, ReadsP.none_, rfl⟩
    · exact ⟨none, 0, [], rfl, by decide, Nat.le_refl _, by decide, ReadsP.none_, rfl⟩
set_option maxRecDepth 100000 in
set_option maxHeartbeats 8000000 in
theorem awake_any (B0 : Nat) (w : World) (hT : Tabs w B0) (hB0 : B0 ≤ w.heap.size) : Calls Tryd.prog 11 #[] w (Gives (.bool true) w) := by
  have hs1 : ((w.alloc (.cells #[.int .i64 1, .int .i64 12, .string ⟨#[]⟩, .slice none 0 0, .int .i64 2, .int .i64 0, .string ⟨#[97, 98]⟩, .slice none 0 0] 24)).alloc (.cells #[.int .i64 3, .int .i64 0, .string ⟨#[]⟩, .slice (some ⟨w.heap.size, 0, none⟩) 2 2] 24)).heap[w.heap.size]? = some (.cells #[.int .i64 1, .int .i64 12, .string ⟨#[]⟩, .slice none 0 0, .int .i64 2, .int .i64 0, .string ⟨#[97, 98]⟩, .slice none 0 0] 24 (0, 0)) := by
    rw [Below.heap_alloc _ _ _ (by simp)]
    exact heap_alloc_new w _
  have hs2 : ((w.alloc (.cells #[.int .i64 1, .int .i64 12, .string ⟨#[]⟩, .slice none 0 0, .int .i64 2, .int .i64 0, .string ⟨#[97, 98]⟩, .slice none 0 0] 24)).alloc (.cells #[.int .i64 3, .int .i64 0, .string ⟨#[]⟩, .slice (some ⟨w.heap.size, 0, none⟩) 2 2] 24)).heap[w.heap.size + 1]? = some (.cells #[.int .i64 3, .int .i64 0, .string ⟨#[]⟩, .slice (some ⟨w.heap.size, 0, none⟩) 2 2] 24 (0, 0)) := by
    have := heap_alloc_new (w.alloc (.cells #[.int .i64 1, .int .i64 12, .string ⟨#[]⟩, .slice none 0 0, .int .i64 2, .int .i64 0, .string ⟨#[97, 98]⟩, .slice none 0 0] 24)) (.cells #[.int .i64 3, .int .i64 0, .string ⟨#[]⟩, .slice (some ⟨w.heap.size, 0, none⟩) 2 2] 24)
    simpa using this
  have hs3 : Below w.heap.size w ((w.alloc (.cells #[.int .i64 1, .int .i64 12, .string ⟨#[]⟩, .slice none 0 0, .int .i64 2, .int .i64 0, .string ⟨#[97, 98]⟩, .slice none 0 0] 24)).alloc (.cells #[.int .i64 3, .int .i64 0, .string ⟨#[]⟩, .slice (some ⟨w.heap.size, 0, none⟩) 2 2] 24)) := ((Below.refl _ _).alloc (Nat.le_refl _) _).alloc (by simp) _
  have hs4 : ((w.alloc (.cells #[.int .i64 1, .int .i64 12, .string ⟨#[]⟩, .slice none 0 0, .int .i64 2, .int .i64 0, .string ⟨#[97, 98]⟩, .slice none 0 0] 24)).alloc (.cells #[.int .i64 3, .int .i64 0, .string ⟨#[]⟩, .slice (some ⟨w.heap.size, 0, none⟩) 2 2] 24)).heap.size = w.heap.size + 2 := by simp
  go_enter Tryd.func11, Tryd.ntmps11
  go_wp2_with fail
  generalize (w.alloc (.cells #[.int .i64 1, .int .i64 12, .string ⟨#[]⟩, .slice none 0 0, .int .i64 2, .int .i64 0, .string ⟨#[97, 98]⟩, .slice none 0 0] 24)).alloc (.cells #[.int .i64 3, .int .i64 0, .string ⟨#[]⟩, .slice (some ⟨w.heap.size, 0, none⟩) 2 2] 24) = w0 at *
  have hr0 := rd_TW w0 w.heap.size hs1
  have hT0 : Tabs w0 w0.heap.size := (hT.on (hs3.mono hB0)).up (by omega)
  have H1 := Lib.hid hs1
  have H2 := Lib.hid hs2
  have H4 := Lib.hid hs4
  clear hs1 hs2 hs4
  refine (put_ok TW _ w0 (hr0.mono (fun b hb hl => hl)) (by decide) gd_TW hT0).mono ?_
  rw [enc_TW]
  rintro e w1 ⟨rfl, hb1⟩
  go_wp2_with fail
  refine (take_any ⟨#[108, 105, 49, 50, 101, 50, 58, 97, 98, 101, 120]⟩ (by decide) w1).mono ?_
  rw [show (⟨#[108, 105, 49, 50, 101, 50, 58, 97, 98, 101, 120]⟩ : ByteArray).data.toList = [108, 105, 49, 50, 101, 50, 58, 97, 98, 101, 120] from rfl, take_TW]
  rintro e w2 ⟨v, rfl, hRA, hb2⟩
  obtain ⟨A, c, rfl, hRd⟩ := hRA.rd
  have hb02 : Below w0.heap.size w0 w2 := hb1.trans (hb2.mono hb1.size)
  obtain ⟨e0, e1, e2, e3, ef⟩ := val_block ((hb02.block (w.heap.size + 1) (by have := H4.out; omega)).trans H2.out)
  have hz : w.heap.size + 1 < w2.heap.size := by have := H4.out; have := hb02.size; omega
  have hrw := hr0.keep (Keeps.of_below hb02 (fun b hb hl => hl))
  have hsame := sameT_tidy TW
  generalize tidy TW = tw at *
  go_wp2_with fail
  refine (same_any TW tw _ _ _ _ _ (hrw.keep ((Keeps.refl _ _).alloc _)) (hRA.keep ((Keeps.refl _ _).alloc _))).mono ?_
  rw [hsame]
  rintro e w3 ⟨rfl, hb3⟩
  go_wp2_with fail
  go_ret
  exact ⟨rfl, hs3.trans ((hb02.mono (by have := H4.out; omega)).trans ((below_new hb3).mono (by have := hb02.size; omega)))⟩
end Go.Proofs.YtcgcocnbjijdaaaDoor
