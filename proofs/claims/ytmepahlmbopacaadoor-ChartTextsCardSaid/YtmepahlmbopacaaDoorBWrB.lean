/- What the writer's value and list do: a value's bytes are appended, or it may not be. Conditions: the writer's block is a writer; the value reads as a tree below it; Go's table of powers of ten lies as start-up lays it. -/
import Derived.Test.YtmepahlmbopacaaDoorBWrA
import Derived.Test.YtmepahlmbopacaaDoorBRefB
set_option linter.unusedVariables false
set_option linter.unusedSimpArgs false
namespace Go.Proofs.YtmepahlmbopacaaDoor.Be
open Go Go.RowKit

theorem encL_append : ∀ l m : List T, encL (l ++ m) = encL l ++ encL m
  | [], m => rfl
  | t :: ts, m => by simp [encL, encL_append ts m]
theorem encL_take (l : List T) (k : Nat) (hk : k < l.length) : encL (l.take (k + 1)) = encL (l.take k) ++ enc l[k] := by
  rw [List.take_succ_eq_append_getElem hk, encL_append]
  simp [encL]
theorem kindsOkL_iff : ∀ l : List T, kindsOkL l = true ↔ ∀ t ∈ l, kindsOk t = true
  | [] => by simp [kindsOkL]
  | t :: ts => by simp [kindsOkL, kindsOkL_iff ts]
theorem deepL_le : ∀ (l : List T) (n : Nat), deepL l ≤ n ↔ ∀ t ∈ l, deepT t ≤ n
  | [], n => by simp [deepL]
  | t :: ts, n => by simp [deepL, ← deepL_le ts n]; omega
theorem wfL_iff : ∀ l : List T, wfL l = true ↔ ∀ t ∈ l, wfT t = true
  | [] => by simp [wfL]
  | t :: ts => by simp [wfL, wfL_iff ts]
/-- Whether a value may be put within so many lists behind so many bytes. -/
def gdT (t : T) (d : Nat) (bs : List UInt8) : Bool := kindsOk t && decide (deepT t + d ≤ 8) && decide ((bs ++ enc t).length ≤ 65536)
theorem gdT_iff {t : T} {d : Nat} {bs : List UInt8} : gdT t d bs = true ↔ kindsOk t = true ∧ deepT t + d ≤ 8 ∧ (bs ++ enc t).length ≤ 65536 := by simp [gdT, and_assoc]
theorem gd_inner {n : Int} {s : ByteArray} {l : List T} {d : Nat} {bs : List UInt8} {k : Nat} (hk : k < l.length) (h : gdT (.mk 3 n s l) d bs = true) : gdT l[k] (d + 1) (bs ++ 108 :: encL (l.take k)) = true := by
  rw [gdT_iff] at h ⊢
  obtain ⟨h1, h2, h3⟩ := h
  rcases kinds_cases h1 with e | e | ⟨_, hkl⟩
  · cases e
  · cases e
  · have hm : l[k] ∈ l := List.getElem_mem hk
    have hd : deepL l + 1 + d ≤ 8 := by simpa [deepT] using h2
    have hdk := (deepL_le l _).1 (Nat.le_refl _) _ hm
    refine ⟨(kindsOkL_iff l).1 hkl _ hm, by omega, ?_⟩
    rw [enc_list] at h3
    have e : l = l.take k ++ (l[k] :: l.drop (k + 1)) := by rw [← List.drop_eq_getElem_cons hk, List.take_append_drop]
    have el : (encL l).length = (encL (l.take k)).length + (enc l[k]).length + (encL (l.drop (k + 1))).length := by
      conv => lhs; rw [e, encL_append, encL]
      simp
      omega
    simp at h3 ⊢
    omega
theorem gd_all {n : Int} {s : ByteArray} {l : List T} {d : Nat} {bs : List UInt8} (hd : d < 8) (h1 : ∀ t ∈ l, kindsOk t = true) (h2 : ∀ t ∈ l, deepT t + (d + 1) ≤ 8) : gdT (.mk 3 n s l) d bs = decide ((bs ++ 108 :: (encL l ++ [101])).length ≤ 65536) := by
  have k1 : kindsOk (.mk 3 n s l) = true := by simp [kindsOk, (kindsOkL_iff l).2 h1]
  have k2 : deepT (.mk 3 n s l) + d ≤ 8 := by
    have := (deepL_le l (7 - d)).2 (fun t ht => by have := h2 t ht; omega)
    simp [deepT]
    omega
  simp only [gdT, k1, decide_eq_true k2, Bool.true_and, enc_list]
/-- What holds at the head of each round of a list's writing. -/
structure WRel (l : List T) (d : Nat) (bs : List UInt8) (Wb B : Nat) (w wr : World) (k : Nat) : Prop where
  at_ : ∃ u, WrAt wr Wb B u (bs ++ 108 :: encL (l.take k))
  bel : Below Wb w wr
  kinds : ∀ t ∈ l.take k, kindsOk t = true
  deep : ∀ t ∈ l.take k, deepT t + (d + 1) ≤ 8
  len : (bs ++ 108 :: encL (l.take k)).length ≤ 65538 + d

theorem wrel_step {l : List T} {d : Nat} {bs : List UInt8} {Wb B : Nat} {w wr w3 : World} {k : Nat} {x : T} (hR : WRel l d bs Wb B w wr k) (hg : gdT x (d + 1) (bs ++ 108 :: encL (l.take k)) = true) (he : encL (l.take (k + 1)) = encL (l.take k) ++ enc x) (ht : l.take (k + 1) = l.take k ++ [x])
    (hw3 : ∃ u, WrAt w3 Wb B u (bs ++ 108 :: encL (l.take k) ++ enc x)) (hb3 : Below Wb wr w3) : WRel l d bs Wb B w w3 (k + 1) := by
  obtain ⟨g1, g2, g3⟩ := gdT_iff.1 hg
  have e : bs ++ 108 :: encL (l.take (k + 1)) = bs ++ 108 :: encL (l.take k) ++ enc x := by rw [he]; simp
  refine ⟨by rw [e]; exact hw3, hR.bel.trans hb3, ?_, ?_, by rw [e]; omega⟩
  · rw [ht]
    intro t hm
    rcases List.mem_append.1 hm with hm | hm
    · exact hR.kinds t hm
    · simp at hm; subst hm; exact g1
  · rw [ht]
    intro t hm
    rcases List.mem_append.1 hm with hm | hm
    · exact hR.deep t hm
    · simp at hm; subst hm; exact g2
set_option maxRecDepth 100000 in
set_option maxHeartbeats 8000000 in
theorem wlist_of (N : Nat) (Wb B : Nat) (ih : ∀ (t : T) (v : Value) (w : World) (u : Value) (bs : List UInt8) (d : Nat) (D : Int), SizeOf.sizeOf t < N → RdA (fun b => b < Wb) w t v → wfT t = true → WrAt w Wb B u bs → Tabs w Wb → bs.length ≤ 65537 + d → D = (d : Int) → d ≤ 8 →
      Calls Tryd.prog 44 #[.pointer (some ⟨Wb, 0, none⟩), v, .int .i64 D] w (WVPost Wb B (gdT t d bs) (bs ++ enc t) w))
    (n : Int) (s : ByteArray) (l : List T) (A : Option Addr) (c : Nat) (xs : List Value) (w : World) (u : Value) (bs : List UInt8) (d : Nat) (D : Int) (hN : ∀ t ∈ l, SizeOf.sizeOf t < N) (hr : ReadsP (fun b => b < Wb) w 4 A l.length xs) (hl : RdL (fun b => b < Wb) w l xs) (hcap : l.length ≤ 9223372036854775807) (hwf : wfL l = true)
    (h : WrAt w Wb B u bs) (hT : Tabs w Wb) (hlen : bs.length ≤ 65537 + d) (hD : D = (d : Int)) (hd : d ≤ 8) :
    Calls Tryd.prog 61 #[.pointer (some ⟨Wb, 0, none⟩), .slice A l.length c, .int .i64 D] w (WVPost Wb B (gdT (.mk 3 n s l) d bs) (bs ++ enc (.mk 3 n s l)) w) := by
  obtain ⟨hc, hf, hz⟩ := h.cell
  have hBs := h.le
  have hlt := h.lt
  by_cases h8 : d = 8
  · have hg : gdT (.mk 3 n s l) d bs = false := by
      rw [Bool.eq_false_iff, Ne, gdT_iff]
      rintro ⟨_, h2, _⟩
      simp [deepT] at h2
      omega
    have hD8 : (D == 8) = true := by rw [beq_iff_eq]; omega
    rw [hg]
    clear hD
    go_enter Tryd.func61, Tryd.ntmps61
    go_wp2_with fail
    go_ret
    exact ⟨rfl, fun h => by simp at h, Below.refl _ _⟩
  · have hd8 : d < 8 := by omega
    have hD8 : (D == 8) = false := by rw [Bool.eq_false_iff, Ne, beq_iff_eq]; omega
    generalize hgd : gdT (.mk 3 n s l) d bs = gd
    have HGD := Lib.hid hgd
    have HD := Lib.hid hD
    have hDb : 0 ≤ D ∧ D < 8 := by omega
    clear hgd hD h8
    obtain ⟨hDb0, hDb1⟩ := hDb
    generalize hll : l.length = len at *
    have HLL := Lib.hid hll
    clear hll
    go_enter Tryd.func61, Tryd.ntmps61
    go_wp2_with (at_builtin; refine append_byte rfl (.tmp 14) (.tmp 15) rfl B u bs.length _ _ rfl rfl h.own rfl (by omega) hBs ?_; intro v1 w1 hown1 hgr1 hob1; obtain ⟨A1, c1, rfl, _⟩ := own_shape hown1; have hb1 := h.grown hgr1; obtain ⟨k0, k1, k2⟩ := blk_cell hb1)
    have hB1 : B ≤ w1.heap.size := Nat.le_trans hBs hgr1.size
    have hw2 := wr_put hb1 (own_byte 108 rfl hown1) hlt hB1
    have hbel2 : Below Wb w (w1.setCell ⟨Wb, 0, none⟩ (.slice A1 (bs.length + 1) c1)) := ((Below.refl Wb w).grown hgr1 (by omega) (fun k hk => by have := (h.own.lt _ hk).1; omega)).setCell (Nat.le_refl _) _
    generalize w1.setCell ⟨Wb, 0, none⟩ (.slice A1 (bs.length + 1) c1) = w2 at hw2 hbel2
    clear k0 k1 k2
    go_loopw [21] (fun i wr => ∃ k : Nat, i = .int .i64 (k : Int) ∧ k ≤ len ∧ WRel l d bs Wb B w wr k) (fun i _ => len - (intOf i).toNat)
    case atStart => exact ⟨0, rfl, Nat.zero_le _, ⟨_, hw2⟩, hbel2, by simp, by simp, by simp [encL]; omega⟩
    case round =>
      obtain ⟨k, rfl, hk, hR⟩ := hrel
      obtain ⟨uk, hwk⟩ := hR.at_
      have hlk := hR.len
      by_cases hlt2 : k < len
      · have hltz : (k : Int) < (len : Int) := by omega
        have hkl : k < l.length := by have := HLL.out; omega
        obtain ⟨b, o, A', c', rfl, hok, hblt, hfr, hRA, g0, g1, g2, g3⟩ := elem_at (HLL.out ▸ hr) hl hkl
        have hRA2 := hRA.keep (Keeps.of_below hR.bel (fun b hb _ => hb))
        rw [← hR.bel.cell (p := ⟨b, o + k * 4, none⟩) hok] at g0
        rw [← hR.bel.cell (p := ⟨b, o + k * 4 + 1, none⟩) hok] at g1
        rw [← hR.bel.cell (p := ⟨b, o + k * 4 + 2, none⟩) hok] at g2
        rw [← hR.bel.cell (p := ⟨b, o + k * 4 + 3, none⟩) hok] at g3
        have hmem : l[k] ∈ l := List.getElem_mem hkl
        have hszk := hN _ hmem
        have hwfk := (wfL_iff l).1 hwf _ hmem
        have hinn : gd = true → gdT l[k] (d + 1) (bs ++ 108 :: encL (l.take k)) = true := fun h => gd_inner hkl (HGD.out.trans h)
        have HINN := Lib.hid hinn
        have HENC := Lib.hid (encL_take l k hkl)
        have HTK := Lib.hid (List.take_succ_eq_append_getElem hkl)
        clear hinn hmem hRA hfr
        generalize l[k] = x at *
        cases hq : gdT x (d + 1) (bs ++ 108 :: encL (l.take k)) with
        | true =>
          have HQ := Lib.hid hq
          clear hq
          go_wp2_with fail
          refine (ih x _ _ _ _ (d + 1) (D + 1) hszk hRA2 hwfk hwk (hT.on hR.bel) (by omega) (by have := HD.out; omega) (by omega)).mono ?_
          rw [HQ.out]
          rintro e w3 ⟨rfl, hw3, hb3⟩
          have HW3 := Lib.hid (hw3 rfl)
          clear hw3
          go_wp2_with fail
          go_roundw
          case rel => exact ⟨k + 1, by go_num, by omega, wrel_step hR HQ.out HENC.out HTK.out HW3.out hb3⟩
          case measure => simp [intOf]; omega
        | false =>
          have HQ := Lib.hid hq
          clear hq
          have hgf : gd = false := by
            cases hg : gd with
            | false => rfl
            | true => have := HINN.out hg; rw [HQ.out] at this; cases this
          have HGF := Lib.hid hgf
          clear hgf
          go_wp2_with fail
          refine (ih x _ _ _ _ (d + 1) (D + 1) hszk hRA2 hwfk hwk (hT.on hR.bel) (by omega) (by have := HD.out; omega) (by omega)).mono ?_
          rw [HQ.out]
          rintro e w3 ⟨rfl, _, hb3⟩
          go_wp2_with fail
          go_ret
          refine ⟨ret_bool HGF.out.symm, fun h => ?_, hR.bel.trans hb3⟩
          rw [HGF.out] at h
          cases h
      · have hltz : ¬ (k : Int) < (len : Int) := by omega
        have htk : l.take k = l := List.take_of_length_le (by have := HLL.out; omega)
        have hkk := hR.kinds
        have hdk := hR.deep
        have hbk := hR.bel
        rw [htk] at hwk hlk hkk hdk
        have HF : Hid (gd = decide ((bs ++ enc (.mk 3 n s l)).length ≤ 65536)) := Lib.hid (by rw [← HGD.out, gd_all hd8 hkk hdk, enc_list])
        have HE : Hid (bs ++ 108 :: encL l ++ [101] = bs ++ enc (.mk 3 n s l)) := Lib.hid (by rw [enc_list]; simp)
        clear htk hkk hdk
        obtain ⟨k0, k1, k2⟩ := hwk.cell
        have hownk := hwk.own
        have hgrk := fun w5 => hwk.grown (w1 := w5)
        have hlek := hwk.le
        generalize bs ++ 108 :: encL l = bs' at *
        go_wp2_with (first
          | (at_builtin; refine append_byte rfl (.tmp 38) (.tmp 39) rfl B uk bs'.length _ _ rfl rfl hownk rfl (by omega) hlek ?_; intro v5 w5 hown5 hgr5 hob5; obtain ⟨A5, c5, rfl, _⟩ := own_shape hown5; have hb5 := hgrk _ hgr5; obtain ⟨k3, k4, k5⟩ := blk_cell hb5)
          | (go_at_call 62; refine (fits_any Wb B _ (bs' ++ [101]) _ (wr_put hb5 (own_byte 101 rfl hown5) hlt (by have := hgr5.size; omega))).mono ?_; rintro e w' ⟨rfl, rfl⟩))
        have hw6 := wr_put hb5 (own_byte 101 rfl hown5) hlt (by have := hgr5.size; omega)
        have hbel6 : Below Wb w (w5.setCell ⟨Wb, 0, none⟩ (.slice A5 (bs'.length + 1) c5)) := (hbk.grown hgr5 (by omega) (fun k hk => by have := (hownk.lt _ hk).1; omega)).setCell (Nat.le_refl _) _
        go_ret
        rw [HE.out] at hw6
        exact ⟨ret_bool (by rw [HF.out, ← HE.out, decide_eq_decide]; simp), fun _ => ⟨_, hw6⟩, hbel6⟩
end Go.Proofs.YtmepahlmbopacaaDoor.Be
