/- The walk of BencBack: it returns true. Conditions: Go's table of powers of ten lies as start-up lays it; the value reads as a tree. -/
import Derived.Test.YtcgcocnbjijdaaaDoorLawB
set_option linter.unusedVariables false
set_option linter.unusedSimpArgs false
namespace Go.Proofs.YtcgcocnbjijdaaaDoor
open Go Go.RowKit

theorem back_res {t : T} {p : ByteArray} (s : ByteArray) (h : PutIs t p 0) (hwf : wfT t = true) : takeRes (p ++ s).data.toList = .ok (tidy t, p.size) ∧ p.size ≤ 65536 := by
  obtain ⟨g1, rfl⟩ := h.good rfl
  obtain ⟨a1, a2, a3⟩ := gdT_iff.1 g1
  have a4 : (enc t).length ≤ 65536 := by simpa using a3
  have h1 := rd_enc t 0 s.data.toList a1 hwf (by omega) a4
  have h2 : ((⟨(enc t).toArray⟩ : ByteArray) ++ s).data.toList = enc t ++ s.data.toList := by
    rw [ByteArray.data_append, Array.toList_append]
  have h3 : (⟨(enc t).toArray⟩ : ByteArray).size = (enc t).length := by simp [ByteArray.size]
  refine ⟨?_, by rw [h3]; exact a4⟩
  unfold takeRes
  rw [h2, h1, h3]
  simp only
  rw [if_neg (by omega)]
theorem tout_of {bs : List UInt8} {t : T} {n : Nat} (hres : takeRes bs = .ok (t, n)) {w w' : World} {e : Ending} (h : TkPost (takeRes bs) w e w') : TOut (t, n, 0) w e w' := by
  have := tk_out h
  unfold takeOut at this
  rw [hres] at this
  exact this
theorem read_put {s : ByteArray} {t : T} {n : Nat} (hres : takeRes s.data.toList = .ok (t, n)) : gdT t 0 [] = true ∧ wfT t = true ∧ (⟨(enc t).toArray⟩ : ByteArray) = s.extract 0 n ∧ 2 ≤ n ∧ n ≤ s.size := by
  obtain ⟨h1, h2⟩ := takeRes_ok hres
  have hr := rd_inv (by omega) h1
  have hle : n ≤ s.size := by
    have := hr.le
    rw [Array.length_toList] at this
    exact this
  refine ⟨gdT_iff.2 ⟨hr.kinds, by have := hr.deep; omega, by rw [List.nil_append, hr.bytes, List.length_take]; omega⟩, hr.wf, ?_, hr.ge, hle⟩
  refine ByteArray.ext (Array.toList_inj.1 ?_)
  rw [Lib.extract_data, hr.bytes]
  simp
set_option maxRecDepth 100000 in
set_option maxHeartbeats 16000000 in
theorem back_long (t : T) (v : Value) (s : ByteArray) (w : World) (ht : RdA (fun b => b < w.heap.size) w t v) (hwt : wfT t = true) (hT : Tabs w w.heap.size) (hlen : 8192 < s.size) : Calls Tryd.prog 5 #[v, .string s] w (Gives (.bool true) w) := by
  have hkt := ht
  obtain ⟨A, c, rfl, _⟩ := ht.rd
  obtain ⟨hq1, hb0, hsz⟩ := box_start w (.int .i64 t.k) (.int .i64 t.n) (.string t.s) (.slice A t.l.length c)
  obtain ⟨w0, hw0⟩ : ∃ w0, w0 = w.alloc (.cells #[.int .i64 t.k, .int .i64 t.n, .string t.s, .slice A t.l.length c] 24) := ⟨_, rfl⟩
  rw [← hw0] at hq1 hb0 hsz
  have HQ1 := Lib.hid hq1
  have HT := Lib.hid hT
  have HKT := Lib.hid hkt
  have HWT := Lib.hid hwt
  have HB0 := Lib.hid hb0
  have aw : ∀ w1 : World, Below w.heap.size w w1 → Calls Tryd.prog 11 #[] w1 (Gives (.bool true) w1) := fun w1 hb => awake_any w.heap.size _ (hT.on hb) hb.size
  have AW := Lib.hid aw
  clear hq1 hT hkt hwt hb0 aw
  have hz : (8192 : Int) < (s.size : Int) := by omega
  cases hs1 : smallT t with
  | false =>
    have HS1 := Lib.hid hs1
    clear hs1
    go_enter Tryd.func5, Tryd.ntmps5
    go_wp2_with fail
    rw [← hw0]
    refine (small_any t _ Tr w0 (HKT.out.any.next HB0.out)).mono ?_
    rintro e w1 ⟨rfl, hb1⟩
    rw [HS1.out]
    have hbw := below_then HB0.out hb1
    have q1 := Lib.hid (on_blk hb1 HQ1.out)
    obtain ⟨e0, e1, e2, e3, ef⟩ := val_block q1.out
    have l1 := blk_lt q1.out
    clear hb1
    go_wp2_with fail
    refine (AW.out _ hbw).mono ?_
    rintro e w9 ⟨rfl, hb9⟩
    go_wp2_with fail
    go_ret
    exact ⟨rfl, below_then hbw hb9⟩
  | true =>
    have HS1 := Lib.hid hs1
    clear hs1
    go_enter Tryd.func5, Tryd.ntmps5
    go_wp2_with fail
    rw [← hw0]
    refine (small_any t _ Tr w0 (HKT.out.any.next HB0.out)).mono ?_
    rintro e w1 ⟨rfl, hb1⟩
    rw [HS1.out]
    have hbw := below_then HB0.out hb1
    have q1 := Lib.hid (on_blk hb1 HQ1.out)
    obtain ⟨e0, e1, e2, e3, ef⟩ := val_block q1.out
    have l1 := blk_lt q1.out
    clear hb1
    go_wp2_with fail
    refine (AW.out _ hbw).mono ?_
    rintro e w9 ⟨rfl, hb9⟩
    go_wp2_with fail
    go_ret
    exact ⟨rfl, below_then hbw hb9⟩
set_option maxRecDepth 100000 in
set_option maxHeartbeats 16000000 in
theorem back_err (t : T) (v : Value) (s : ByteArray) (w : World) (ht : RdA (fun b => b < w.heap.size) w t v) (hwt : wfT t = true) (hT : Tabs w w.heap.size) (hlen : s.size ≤ 8192) (x2 : Int) (hres : takeRes s.data.toList = .error x2) : Calls Tryd.prog 5 #[v, .string s] w (Gives (.bool true) w) := by
  have hkt := ht
  obtain ⟨A, c, rfl, _⟩ := ht.rd
  obtain ⟨hq1, hb0, hsz⟩ := box_start w (.int .i64 t.k) (.int .i64 t.n) (.string t.s) (.slice A t.l.length c)
  obtain ⟨w0, hw0⟩ : ∃ w0, w0 = w.alloc (.cells #[.int .i64 t.k, .int .i64 t.n, .string t.s, .slice A t.l.length c] 24) := ⟨_, rfl⟩
  rw [← hw0] at hq1 hb0 hsz
  have HQ1 := Lib.hid hq1
  have HT := Lib.hid hT
  have HKT := Lib.hid hkt
  have HWT := Lib.hid hwt
  have HB0 := Lib.hid hb0
  have aw : ∀ w1 : World, Below w.heap.size w w1 → Calls Tryd.prog 11 #[] w1 (Gives (.bool true) w1) := fun w1 hb => awake_any w.heap.size _ (hT.on hb) hb.size
  have AW := Lib.hid aw
  clear hq1 hT hkt hwt hb0 aw
  have hz : ¬ (8192 : Int) < (s.size : Int) := by omega
  have hz2 : (s.size : Int) ≤ 8192 := by omega
  have hx2 : ¬ x2 = 0 := by rcases takeRes_errs hres with h | h | h | h <;> omega
  have hts : ∀ W, Calls Tryd.prog 14 #[.string s] W fun e w' => e = .returned (.tuple #[zeroA, .int .i64 0, .int .i64 x2]) ∧ Below W.heap.size W w' := fun W => (take_any s (by omega) W).mono (fun _ _ h => by rw [hres] at h; exact h)
  have HTS := Lib.hid hts
  clear hts hres
  cases hs1 : smallT t with
  | false =>
    have HS1 := Lib.hid hs1
    clear hs1
    go_enter Tryd.func5, Tryd.ntmps5
    go_wp2_with fail
    rw [← hw0]
    refine (small_any t _ Tr w0 (HKT.out.any.next HB0.out)).mono ?_
    rintro e w1 ⟨rfl, hb1⟩
    rw [HS1.out]
    have hbw := below_then HB0.out hb1
    have q1 := Lib.hid (on_blk hb1 HQ1.out)
    obtain ⟨e0, e1, e2, e3, ef⟩ := val_block q1.out
    have l1 := blk_lt q1.out
    clear hb1
    go_wp2_with fail
    refine (HTS.out _).mono ?_
    rintro e w8 ⟨rfl, hb8⟩
    have hbw8 := below_then hbw hb8
    unfold zeroA
    clear hb8 hbw
    go_wp2_with fail
    have hbw9 := hbw8.alloc hbw8.size (.cells #[.int .i64 0, .int .i64 0, .string ⟨#[]⟩, .slice none 0 0] 24)
    refine (AW.out _ hbw9).mono ?_
    rintro e w9 ⟨rfl, hb9⟩
    go_wp2_with fail
    go_ret
    exact ⟨rfl, below_then hbw9 hb9⟩
  | true =>
    have HS1 := Lib.hid hs1
    clear hs1
    go_enter Tryd.func5, Tryd.ntmps5
    go_wp2_with fail
    rw [← hw0]
    refine (small_any t _ Tr w0 (HKT.out.any.next HB0.out)).mono ?_
    rintro e w1 ⟨rfl, hb1⟩
    rw [HS1.out]
    have hbw := below_then HB0.out hb1
    have q1 := Lib.hid (on_blk hb1 HQ1.out)
    obtain ⟨e0, e1, e2, e3, ef⟩ := val_block q1.out
    have l1 := blk_lt q1.out
    clear hb1
    go_wp2_with fail
    refine (put_out t _ w1 (RdA.on HKT.out hbw) HS1.out HWT.out ((HT.out.on hbw).up hbw.size)).mono ?_
    rintro e w3 ⟨p, x, rfl, hp, hb3⟩
    have q1 := Lib.hid (on_blk hb3 q1.out)
    obtain ⟨e0, e1, e2, e3, ef⟩ := val_block q1.out
    have l1 := blk_lt q1.out
    have hbw := below_then hbw hb3
    clear hb3
    by_cases hx : x = 0
    · subst hx
      obtain ⟨hbr, hps⟩ := back_res s hp HWT.out
      have hcat := fun W => (take_any (p ++ s) (by rw [ByteArray.size_append]; omega) W).mono (fun _ _ h => tout_of hbr h)
      have hsm := sameT_tidy t
      generalize tidy t = t1 at *
      have HCAT := Lib.hid hcat
      have HSM := Lib.hid hsm
      have hsum : p.size + s.size ≤ 9223372036854775807 := by omega
      have hsum2 : p.size + s.size ≤ maxLen := by unfold maxLen; omega
      clear hbr hcat hsm hp
      go_wp2_with fail
      refine (HCAT.out _).mono ?_
      rintro e w5 ⟨A5, c5, rfl, hr5, hb5⟩
      dsimp only at hr5 ⊢
      have q1 := Lib.hid (on_blk hb5 q1.out)
      obtain ⟨e0, e1, e2, e3, ef⟩ := val_block q1.out
      have l1 := blk_lt q1.out
      have hbw := below_then hbw hb5
      have hcall := same_any t t1 _ _ Tr Tr _ ((HKT.out.any.next hbw).al (.cells #[.int .i64 t1.k, .int .i64 t1.n, .string t1.s, .slice A5 t1.l.length c5] 24)) (hr5.al (.cells #[.int .i64 t1.k, .int .i64 t1.n, .string t1.s, .slice A5 t1.l.length c5] 24))
      rw [HSM.out] at hcall
      have HCALL := Lib.hid hcall
      clear hb5 hcall hr5
      go_wp2_with fail
      refine HCALL.out.mono ?_
      rintro e w6 ⟨rfl, hb6⟩
      have hbw := below_then hbw (below_new hb6)
      clear hb6
      go_wp2_with fail
      refine (HTS.out _).mono ?_
      rintro e w8 ⟨rfl, hb8⟩
      have hbw8 := below_then hbw hb8
      unfold zeroA
      clear hb8 hbw
      go_wp2_with fail
      have hbw9 := hbw8.alloc hbw8.size (.cells #[.int .i64 0, .int .i64 0, .string ⟨#[]⟩, .slice none 0 0] 24)
      refine (AW.out _ hbw9).mono ?_
      rintro e w9 ⟨rfl, hb9⟩
      go_wp2_with fail
      go_ret
      exact ⟨rfl, below_then hbw9 hb9⟩
    · go_wp2_with fail
      refine (HTS.out _).mono ?_
      rintro e w8 ⟨rfl, hb8⟩
      have hbw8 := below_then hbw hb8
      unfold zeroA
      clear hb8 hbw
      go_wp2_with fail
      have hbw9 := hbw8.alloc hbw8.size (.cells #[.int .i64 0, .int .i64 0, .string ⟨#[]⟩, .slice none 0 0] 24)
      refine (AW.out _ hbw9).mono ?_
      rintro e w9 ⟨rfl, hb9⟩
      go_wp2_with fail
      go_ret
      exact ⟨rfl, below_then hbw9 hb9⟩
set_option maxRecDepth 100000 in
set_option maxHeartbeats 16000000 in
theorem back_ok (t : T) (v : Value) (s : ByteArray) (w : World) (ht : RdA (fun b => b < w.heap.size) w t v) (hwt : wfT t = true) (hT : Tabs w w.heap.size) (hlen : s.size ≤ 8192) (t2 : T) (n : Nat) (hres : takeRes s.data.toList = .ok (t2, n)) : Calls Tryd.prog 5 #[v, .string s] w (Gives (.bool true) w) := by
  have hkt := ht
  obtain ⟨A, c, rfl, _⟩ := ht.rd
  obtain ⟨hq1, hb0, hsz⟩ := box_start w (.int .i64 t.k) (.int .i64 t.n) (.string t.s) (.slice A t.l.length c)
  obtain ⟨w0, hw0⟩ : ∃ w0, w0 = w.alloc (.cells #[.int .i64 t.k, .int .i64 t.n, .string t.s, .slice A t.l.length c] 24) := ⟨_, rfl⟩
  rw [← hw0] at hq1 hb0 hsz
  have HQ1 := Lib.hid hq1
  have HT := Lib.hid hT
  have HKT := Lib.hid hkt
  have HWT := Lib.hid hwt
  have HB0 := Lib.hid hb0
  have aw : ∀ w1 : World, Below w.heap.size w w1 → Calls Tryd.prog 11 #[] w1 (Gives (.bool true) w1) := fun w1 hb => awake_any w.heap.size _ (hT.on hb) hb.size
  have AW := Lib.hid aw
  clear hq1 hT hkt hwt hb0 aw
  have hz : ¬ (8192 : Int) < (s.size : Int) := by omega
  have hz2 : (s.size : Int) ≤ 8192 := by omega
  have hts : ∀ W, Calls Tryd.prog 14 #[.string s] W (TOut (t2, n, 0) W) := fun W => (take_any s (by omega) W).mono (fun _ _ h => tout_of hres h)
  obtain ⟨hg2, hwf2, hE, hn2, hns⟩ := read_put hres
  have hn2z : (2 : Int) ≤ (n : Int) := by omega
  have hnsz : (n : Int) ≤ (s.size : Int) := by omega
  have hn0z : (0 : Int) ≤ (n : Int) := by omega
  have hpt : ∀ (v : Value) (W : World), RdA (fun b => b < W.heap.size) W t2 v → Tabs W W.heap.size → Calls Tryd.prog 12 #[v] W fun e w' => e = .returned (.tuple #[.string (s.extract 0 n), .int .i64 0]) ∧ Below W.heap.size W w' := fun v W h1 h2 => by
    have := put_ok t2 v W h1 hwf2 hg2 h2
    rw [hE] at this
    exact this
  have HTS := Lib.hid hts
  have HPT := Lib.hid hpt
  clear hts hpt hres hE hg2 hwf2
  cases hs1 : smallT t with
  | false =>
    have HS1 := Lib.hid hs1
    clear hs1
    go_enter Tryd.func5, Tryd.ntmps5
    go_wp2_with fail
    rw [← hw0]
    refine (small_any t _ Tr w0 (HKT.out.any.next HB0.out)).mono ?_
    rintro e w1 ⟨rfl, hb1⟩
    rw [HS1.out]
    have hbw := below_then HB0.out hb1
    have q1 := Lib.hid (on_blk hb1 HQ1.out)
    obtain ⟨e0, e1, e2, e3, ef⟩ := val_block q1.out
    have l1 := blk_lt q1.out
    clear hb1
    go_wp2_with fail
    refine (HTS.out _).mono ?_
    rintro e w8 ⟨A8, c8, rfl, hr8, hb8⟩
    dsimp only at hr8 ⊢
    have hbw8 := below_then hbw hb8
    clear hb8 hbw
    go_wp2_with fail
    have hbw9 := hbw8.alloc hbw8.size (.cells #[.int .i64 t2.k, .int .i64 t2.n, .string t2.s, .slice A8 t2.l.length c8] 24)
    refine (HPT.out _ _ ((hr8.al _).mono (fun b _ h => h)) ((HT.out.on hbw9).up hbw9.size)).mono ?_
    rintro e w10 ⟨rfl, hb10⟩
    have hbw10 := below_then hbw9 hb10
    clear hb10 hbw9 hbw8 hr8
    go_wp2_with fail
    refine (AW.out _ hbw10).mono ?_
    rintro e w11 ⟨rfl, hb11⟩
    go_wp2_with fail
    go_ret
    exact ⟨rfl, below_then hbw10 hb11⟩
  | true =>
    have HS1 := Lib.hid hs1
    clear hs1
    go_enter Tryd.func5, Tryd.ntmps5
    go_wp2_with fail
    rw [← hw0]
    refine (small_any t _ Tr w0 (HKT.out.any.next HB0.out)).mono ?_
    rintro e w1 ⟨rfl, hb1⟩
    rw [HS1.out]
    have hbw := below_then HB0.out hb1
    have q1 := Lib.hid (on_blk hb1 HQ1.out)
    obtain ⟨e0, e1, e2, e3, ef⟩ := val_block q1.out
    have l1 := blk_lt q1.out
    clear hb1
    go_wp2_with fail
    refine (put_out t _ w1 (RdA.on HKT.out hbw) HS1.out HWT.out ((HT.out.on hbw).up hbw.size)).mono ?_
    rintro e w3 ⟨p, x, rfl, hp, hb3⟩
    have q1 := Lib.hid (on_blk hb3 q1.out)
    obtain ⟨e0, e1, e2, e3, ef⟩ := val_block q1.out
    have l1 := blk_lt q1.out
    have hbw := below_then hbw hb3
    clear hb3
    by_cases hx : x = 0
    · subst hx
      obtain ⟨hbr, hps⟩ := back_res s hp HWT.out
      have hcat := fun W => (take_any (p ++ s) (by rw [ByteArray.size_append]; omega) W).mono (fun _ _ h => tout_of hbr h)
      have hsm := sameT_tidy t
      generalize tidy t = t1 at *
      have HCAT := Lib.hid hcat
      have HSM := Lib.hid hsm
      have hsum : p.size + s.size ≤ 9223372036854775807 := by omega
      have hsum2 : p.size + s.size ≤ maxLen := by unfold maxLen; omega
      clear hbr hcat hsm hp
      go_wp2_with fail
      refine (HCAT.out _).mono ?_
      rintro e w5 ⟨A5, c5, rfl, hr5, hb5⟩
      dsimp only at hr5 ⊢
      have q1 := Lib.hid (on_blk hb5 q1.out)
      obtain ⟨e0, e1, e2, e3, ef⟩ := val_block q1.out
      have l1 := blk_lt q1.out
      have hbw := below_then hbw hb5
      have hcall := same_any t t1 _ _ Tr Tr _ ((HKT.out.any.next hbw).al (.cells #[.int .i64 t1.k, .int .i64 t1.n, .string t1.s, .slice A5 t1.l.length c5] 24)) (hr5.al (.cells #[.int .i64 t1.k, .int .i64 t1.n, .string t1.s, .slice A5 t1.l.length c5] 24))
      rw [HSM.out] at hcall
      have HCALL := Lib.hid hcall
      clear hb5 hcall hr5
      go_wp2_with fail
      refine HCALL.out.mono ?_
      rintro e w6 ⟨rfl, hb6⟩
      have hbw := below_then hbw (below_new hb6)
      clear hb6
      go_wp2_with fail
      refine (HTS.out _).mono ?_
      rintro e w8 ⟨A8, c8, rfl, hr8, hb8⟩
      dsimp only at hr8 ⊢
      have hbw8 := below_then hbw hb8
      clear hb8 hbw
      go_wp2_with fail
      have hbw9 := hbw8.alloc hbw8.size (.cells #[.int .i64 t2.k, .int .i64 t2.n, .string t2.s, .slice A8 t2.l.length c8] 24)
      refine (HPT.out _ _ ((hr8.al _).mono (fun b _ h => h)) ((HT.out.on hbw9).up hbw9.size)).mono ?_
      rintro e w10 ⟨rfl, hb10⟩
      have hbw10 := below_then hbw9 hb10
      clear hb10 hbw9 hbw8 hr8
      go_wp2_with fail
      refine (AW.out _ hbw10).mono ?_
      rintro e w11 ⟨rfl, hb11⟩
      go_wp2_with fail
      go_ret
      exact ⟨rfl, below_then hbw10 hb11⟩
    · go_wp2_with fail
      refine (HTS.out _).mono ?_
      rintro e w8 ⟨A8, c8, rfl, hr8, hb8⟩
      dsimp only at hr8 ⊢
      have hbw8 := below_then hbw hb8
      clear hb8 hbw
      go_wp2_with fail
      have hbw9 := hbw8.alloc hbw8.size (.cells #[.int .i64 t2.k, .int .i64 t2.n, .string t2.s, .slice A8 t2.l.length c8] 24)
      refine (HPT.out _ _ ((hr8.al _).mono (fun b _ h => h)) ((HT.out.on hbw9).up hbw9.size)).mono ?_
      rintro e w10 ⟨rfl, hb10⟩
      have hbw10 := below_then hbw9 hb10
      clear hb10 hbw9 hbw8 hr8
      go_wp2_with fail
      refine (AW.out _ hbw10).mono ?_
      rintro e w11 ⟨rfl, hb11⟩
      go_wp2_with fail
      go_ret
      exact ⟨rfl, below_then hbw10 hb11⟩
theorem bencBack_walk (t : T) (v : Value) (s : ByteArray) (w : World) (ht : RdA (fun b => b < w.heap.size) w t v) (hwt : wfT t = true) (hT : Tabs w w.heap.size) : Calls Tryd.prog 5 #[v, .string s] w (Gives (.bool true) w) := by
  by_cases hlen : 8192 < s.size
  · exact back_long t v s w ht hwt hT hlen
  · rcases hres : takeRes s.data.toList with x | ⟨t2, n⟩
    · exact back_err t v s w ht hwt hT (by omega) x hres
    · exact back_ok t v s w ht hwt hT (by omega) t2 n hres
end Go.Proofs.YtcgcocnbjijdaaaDoor
