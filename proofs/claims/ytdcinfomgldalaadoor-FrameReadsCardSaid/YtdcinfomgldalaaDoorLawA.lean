/- The walks of FramePuts, FrameReads: each returns true. Conditions: the table of four bits lies as start-up lays it. -/
import Derived.Test.YtdcinfomgldalaaDoorAwake
set_option linter.unusedVariables false
set_option linter.unusedSimpArgs false
namespace Go.Proofs.YtdcinfomgldalaaDoor
open Go Go.RowKit

theorem putV_ok {s : ByteArray} (h : s.size ≤ 262144) : putV s = .tuple #[.string (encS s), .int .i64 0] := by
  unfold putV
  rw [if_pos h]
theorem tkV_enc (s r : ByteArray) (h : s.size ≤ 262144) : tkV (tkL ((encS s) ++ r : ByteArray).data.toList) = .tuple #[.string s, .int .i64 ((encS s).size : Int), .int .i64 0] := by
  rw [ByteArray.data_append, Array.toList_append, encS_list, tk_enc s.data.toList r.data.toList (by rw [size_list]; exact h), encS_size, size_list]
  rfl
set_option maxHeartbeats 4000000 in
theorem framePuts_walk (s tail : ByteArray) (w : World) (hT : TabW w) : Calls Tryd.prog 3 #[.string s, .string tail] w (Gives (.bool true) w) := by
  by_cases h1 : 8192 < s.size
  · have HA := Lib.hid (awake_any w hT)
    have hz : (8192 : Int) < (s.size : Int) := by omega
    clear hT h1
    go_enter Tryd.func3, Tryd.ntmps3
    go_wp2_with fail
    refine HA.out.mono ?_
    rintro e w1 ⟨rfl, hb⟩
    go_wp2_with fail
    go_ret
    exact ⟨rfl, hb⟩
  by_cases h2 : 8192 < tail.size
  · have HA := Lib.hid (awake_any w hT)
    have hz : ¬ (8192 : Int) < (s.size : Int) := by omega
    have hz2 : (8192 : Int) < (tail.size : Int) := by omega
    clear hT h1 h2
    go_enter Tryd.func3, Tryd.ntmps3
    go_wp2_with fail
    refine HA.out.mono ?_
    rintro e w1 ⟨rfl, hb⟩
    go_wp2_with fail
    go_ret
    exact ⟨rfl, hb⟩
  have hz : ¬ (8192 : Int) < (s.size : Int) := by omega
  have hz2 : ¬ (8192 : Int) < (tail.size : Int) := by omega
  have p1 := put_any s (by omega) w hT
  have p2 := fun w => rput_any s (by omega) w
  rw [putV_ok (by omega)] at p1 p2
  have hsz := encS_size s
  have hcs : ((encS s) ++ tail : ByteArray).size = s.size + 14 + tail.size := by rw [ByteArray.size_append, hsz]
  have p3 := fun w hT => take_any ((encS s) ++ tail) (by omega) w hT
  rw [tkV_enc s tail (by omega)] at p3
  have P1 := Lib.hid p1
  have P2 := Lib.hid p2
  have P3 := Lib.hid p3
  have HT := Lib.hid hT
  have hpos := hT.size
  clear p1 p2 p3 hT hcs
  generalize encS s = S at *
  have hm : S.size + tail.size ≤ 20000 := by omega
  clear hsz h1 h2
  go_enter Tryd.func3, Tryd.ntmps3
  go_wp2_with fail
  refine P1.out.mono ?_
  rintro e w1 ⟨rfl, hb1⟩
  go_wp2_with fail
  refine (P2.out w1).mono ?_
  rintro e w2 ⟨rfl, hb2⟩
  have hb12 := below_then' hb1 hb2
  go_wp2_with fail
  refine (P3.out w2 (HT.out.below hb12 hpos)).mono ?_
  rintro e w3 ⟨rfl, hb3⟩
  have hb13 := below_then' hb12 hb3
  go_wp2_with fail
  refine (awake_any w3 (HT.out.below hb13 hpos)).mono ?_
  rintro e w4 ⟨rfl, hb4⟩
  go_wp2_with fail
  go_ret
  exact ⟨rfl, below_then' hb13 hb4⟩
theorem encs_len (ts : List (List UInt8)) : ts.length * 14 ≤ (encs ts).length := by
  induction ts with
  | nil => simp
  | cons t ts ih =>
    rw [encs_cons, List.length_append, enc_len, List.length_cons]
    omega
theorem alls_len (l : List UInt8) : (alls l).1.length ≤ l.length := by
  obtain ⟨h1, h2, _⟩ := alls_back l
  have h3 := encs_len (alls l).1
  rw [h2, List.length_take] at h3
  omega
set_option maxHeartbeats 4000000 in
theorem frameReads_walk (s : ByteArray) (w : World) (hT : TabW w) : Calls Tryd.prog 4 #[.string s] w (Gives (.bool true) w) := by
  by_cases h1 : 8192 < s.size
  · have HA := Lib.hid (awake_any w hT)
    have hz : (8192 : Int) < (s.size : Int) := by omega
    clear hT h1
    go_enter Tryd.func4, Tryd.ntmps4
    go_wp2_with fail
    refine HA.out.mono ?_
    rintro e w1 ⟨rfl, hb⟩
    go_wp2_with fail
    go_ret
    exact ⟨rfl, hb⟩
  have hz : ¬ (8192 : Int) < (s.size : Int) := by omega
  have P1 := Lib.hid (take_any s (by omega) w hT)
  have P2 := Lib.hid (fun w => rtake_any s (by omega) w)
  have P3 := Lib.hid (fun w hT => all_any s (by omega) w hT)
  have P4 := Lib.hid (fun w => rall_any s (by omega) w)
  have HT := Lib.hid hT
  have hpos := hT.size
  have hlen : (alls s.data.toList).1.length ≤ 1000000 := by
    have := alls_len s.data.toList
    rw [size_list] at this
    omega
  generalize tkL s.data.toList = R at *
  generalize alls s.data.toList = L at *
  obtain ⟨t, n, e0⟩ := R
  unfold tkV at P1 P2
  simp only at P1 P2
  generalize (⟨t.toArray⟩ : ByteArray) = X at *
  clear hT h1
  go_enter Tryd.func4, Tryd.ntmps4
  go_wp2_with fail
  refine P1.out.mono ?_
  rintro e w1 ⟨rfl, hb1⟩
  have hT1 := Lib.hid (HT.out.below hb1 hpos)
  go_wp2_with fail
  refine (P2.out w1).mono ?_
  rintro e w2 ⟨rfl, rfl⟩
  go_wp2_with fail
  refine (P3.out w1 hT1.out).mono ?_
  rintro e w2 ⟨A, m, c, rfl, hr2, hb2, hq1, hq2⟩
  have hb12 := below_then' hb1 hb2
  have hm := reads_len hr2
  have hm2 : m ≤ 1000000 := by omega
  clear hm hlen
  have HR2 := Lib.hid hr2
  have HQ2 := Lib.hid (And.intro hq1 hq2)
  clear hr2 hq1 hq2
  go_wp2_with fail
  refine (P4.out w2).mono ?_
  rintro e w3 ⟨A', m', c', rfl, hr3, hb3, hq1, hq2⟩
  have hb13 := below_then' hb12 hb3
  have hs := Lib.hid (same_true A A' m m' c c' _ _ L.1 w3 (HR2.out.below hb3) hr3 hm2)
  clear hr3 hq1 hq2
  go_wp2_with fail
  refine hs.out.mono ?_
  rintro e w4 ⟨rfl, q, rfl⟩
  have hb14 := below_drewN hb13 q
  go_wp2_with fail
  refine (awake_any (w3.drewN q) (HT.out.below hb14 hpos)).mono ?_
  rintro e w5 ⟨rfl, hb5⟩
  go_wp2_with fail
  go_ret
  exact ⟨rfl, below_then' hb14 hb5⟩
end Go.Proofs.YtdcinfomgldalaaDoor
