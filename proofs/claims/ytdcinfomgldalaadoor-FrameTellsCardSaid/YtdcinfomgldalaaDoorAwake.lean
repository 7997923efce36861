/- What awake returns: true. Conditions: the table of four bits lies as start-up lays it. -/
import Derived.Test.YtdcinfomgldalaaDoorRAll
import Derived.Test.YtdcinfomgldalaaDoorFrmC
set_option linter.unusedVariables false
set_option linter.unusedSimpArgs false
namespace Go.Proofs.YtdcinfomgldalaaDoor
open Go Go.RowKit

def HI : ByteArray := ⟨#[104, 105]⟩
def HL : List UInt8 := [104, 105]
theorem hi_six : (encS HI).extract 0 6 = ⟨#[48, 48, 48, 48, 48, 50]⟩ := by
  refine ByteArray.ext (Array.ext' ?_)
  rw [cut_list, encS_list, List.drop_zero]
  exact fr_take6 2 (sm HL) (HL ++ [10])
theorem hi_take : tkL ((encS HI) ++ ⟨#[120]⟩ : ByteArray).data.toList = (HL, 16, 0) := by
  rw [ByteArray.data_append, Array.toList_append, encS_list]
  exact tk_enc HL [120] (by decide)
theorem hi_val : tkV (HL, 16, 0) = .tuple #[.string ⟨#[104, 105]⟩, .int .i64 16, .int .i64 0] := rfl
theorem hi_all : (alls ((encS HI) ++ (encS HI) ++ (encS HI).extract 0 15 : ByteArray).data.toList).2 = 32 ∧ (alls ((encS HI) ++ (encS HI) ++ (encS HI).extract 0 15 : ByteArray).data.toList).1.length = 2 := by
  have e : ((encS HI) ++ (encS HI) ++ (encS HI).extract 0 15 : ByteArray).data.toList = (encs [HL, HL, HL]).take 47 := by
    rw [ByteArray.data_append, Array.toList_append, ByteArray.data_append, Array.toList_append, cut_list, encS_list, List.drop_zero]
    have h : HI.data.toList = HL := rfl
    have l16 : (enc HL).length = 16 := enc_len HL
    have t1 : (enc HL).take 47 = enc HL := List.take_of_length_le (by rw [l16]; omega)
    have t2 : (enc HL).take (47 - 16) = enc HL := List.take_of_length_le (by rw [l16]; omega)
    rw [h, encs_cons, encs_cons, encs_cons, encs_nil, List.append_nil, List.take_append, List.take_append, l16, t1, t2, List.append_assoc]
  have hw : wh [HL, HL, HL] 47 = 2 := by decide
  rw [e, alls_cut [HL, HL, HL] 47 (by decide), hw]
  refine ⟨?_, rfl⟩
  show (encs [HL, HL]).length = 32
  rw [encs_cons, encs_cons, encs_nil, List.length_append, List.length_append, enc_len, List.length_nil]
  decide
set_option maxHeartbeats 4000000 in
theorem awake_any (w : World) (hT : TabW w) : Calls Tryd.prog 9 #[] w (Gives (.bool true) w) := by
  have h1 : Calls Tryd.prog 10 #[.string ⟨#[104, 105]⟩] w fun e w' => e = .returned (putV HI) ∧ Below w.heap.size w w' := put_any HI (by decide) w hT
  have hp : putV HI = .tuple #[.string (encS HI), .int .i64 0] := by
    unfold putV
    rw [if_pos (by decide)]
  rw [hp] at h1
  have hsz := encS_size HI
  have h16 : (encS HI).size = 16 := by rw [hsz]; rfl
  have hz16 : ((encS HI).size : Int) = 16 := by omega
  have hx := hi_six
  have hs1 : ((encS HI) ++ ⟨#[120]⟩ : ByteArray).size = 17 := by rw [ByteArray.size_append, h16]; rfl
  have h15 : ((encS HI).extract 0 15).size = 15 := by rw [ByteArray.size_extract]; omega
  have hs2 : ((encS HI) ++ (encS HI) : ByteArray).size = 32 := by rw [ByteArray.size_append, h16]
  have hs3 : ((encS HI) ++ (encS HI) ++ (encS HI).extract 0 15 : ByteArray).size = 47 := by rw [ByteArray.size_append, hs2, h15]
  have h2 := fun (w : World) hT => take_any ((encS HI) ++ ⟨#[120]⟩) (by rw [hs1]; omega) w hT
  rw [hi_take, hi_val] at h2
  have h3 := fun (w : World) hT => all_any ((encS HI) ++ (encS HI) ++ (encS HI).extract 0 15) (by rw [hs3]; omega) w hT
  obtain ⟨k1, k2⟩ := hi_all
  have H1 := Lib.hid h1
  have H2 := Lib.hid h2
  have H3 := Lib.hid h3
  have HT := Lib.hid hT
  have hpos := hT.size
  have K1 := Lib.hid k1
  have K2 := Lib.hid k2
  generalize alls ((encS HI) ++ (encS HI) ++ (encS HI).extract 0 15 : ByteArray).data.toList = R at *
  generalize encS HI = S at *
  have h16' : S.size = 16 := h16
  have h6' : 6 ≤ S.size := by omega
  have h15' : 15 ≤ S.size := by omega
  clear h1 h2 h3 hT k1 k2 hp hsz
  go_enter Tryd.func9, Tryd.ntmps9
  go_wp2_with fail
  refine H1.out.mono ?_
  rintro e w1 ⟨rfl, hb1⟩
  have hT1 := HT.out.below hb1 hpos
  go_wp2_with fail
  refine (H2.out w1 hT1).mono ?_
  rintro e w2 ⟨rfl, hb2⟩
  have hb12 := below_then' hb1 hb2
  have hT2 := HT.out.below hb12 hpos
  go_wp2_with fail
  refine (H3.out w2 hT2).mono ?_
  rintro e w3 ⟨A, n, c, rfl, hr, hb3, hq1, hq2⟩
  have hn2 : n = 2 := by rw [reads_len hr]; exact K2.out
  have hn3 : (R.2 : Int) = 32 := by rw [K1.out]; rfl
  subst hn2
  have hb13 := below_then' hb12 hb3
  clear hr
  go_wp2_with fail
  go_ret
  exact ⟨rfl, hb13⟩
end Go.Proofs.YtdcinfomgldalaaDoor
