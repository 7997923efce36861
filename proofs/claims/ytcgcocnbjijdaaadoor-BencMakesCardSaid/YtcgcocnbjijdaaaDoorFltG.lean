/- What within of package benc returns: parts of the lists that are values of some lists. Conditions: the map's keys are none, or addresses of cells that are not frozen; the lists read as trees below the map. -/
import Derived.Test.YtcgcocnbjijdaaaDoorFltF
set_option linter.unusedVariables false
set_option linter.unusedSimpArgs false
namespace Go.Proofs.YtcgcocnbjijdaaaDoor
open Go Go.RowKit

theorem start_of {ok : Nat → Prop} {w : World} {t : T} {A : Option Addr} {c : Nat} (h : RdA ok w t (.agg #[.int .i64 t.k, .int .i64 t.n, .string t.s, .slice A t.l.length c])) : 0 < t.l.length → ∃ b o ca ty fr, A = some ⟨b, o, none⟩ ∧ w.heap[b]? = some (.cells ca ty fr) ∧ w.frozen? ⟨b, o, none⟩ = false ∧ ok b := by
  intro hn
  obtain ⟨A1, c1, xs, e, h2, h3, h4, h5, h6⟩ := h
  obtain ⟨rfl, rfl⟩ : A = A1 ∧ c = c1 := by simpa using e
  obtain ⟨b, o, A', c', rfl, hok, hlt, hf, _, g0, _⟩ := elem_at h5 h6 hn
  obtain ⟨ca, ty, fr, hb⟩ : ∃ ca ty fr, w.heap[b]? = some (.cells ca ty fr) := by
    unfold World.cell? at g0
    split at g0
    · rename_i x y z hb
      exact ⟨_, _, _, hb⟩
    · cases g0
  exact ⟨b, o, ca, ty, fr, rfl, hb, hf, hok⟩
theorem RdA.caps {ok : Nat → Prop} {w : World} {t : T} {A : Option Addr} {c : Nat} (h : RdA ok w t (.agg #[.int .i64 t.k, .int .i64 t.n, .string t.s, .slice A t.l.length c])) : t.l.length ≤ c ∧ c ≤ 9223372036854775807 ∧ ∃ xs, ReadsP ok w 4 A t.l.length xs ∧ RdL ok w t.l xs := by
  obtain ⟨A1, c1, xs, e, h2, h3, h4, h5, h6⟩ := h
  obtain ⟨rfl, rfl⟩ : A = A1 ∧ c = c1 := by simpa using e
  exact ⟨h3, by unfold maxLen at h4; omega, xs, h5, h6⟩
structure WOut (ls : List (List T)) (B0 mb : Nat) (w : World) (e : Ending) (w' : World) : Prop where
  out : ∃ v' vs' ls', e = .returned v' ∧ WIn ls B0 mb w w' v' vs' ls' (sumW ls) ls.isEmpty
theorem first_step {ls : List (List T)} {i j : Nat} (hi : i < ls.length) (hj : j < ls[i].length) : (decide (i = 0 ∧ j = 0) = true → ∀ t, ls = [[t]] → ls[i][j] = t) ∧ (decide (i = 0 ∧ j = 0) = false → ∀ t, ls ≠ [[t]]) := by
  refine ⟨fun h t e => ?_, fun h t e => ?_⟩
  · subst e
    have := of_decide_eq_true h
    obtain ⟨rfl, rfl⟩ := this
    rfl
  · subst e
    have := of_decide_eq_false h
    simp at hi
    subst hi
    simp at hj
    omega
theorem WIn.later {ls : List (List T)} {B0 mb : Nat} {w wr : World} {v' : Value} {vs' : List Value} {ls' : List (List T)} {a : Nat} {first : Bool} (h : WIn ls B0 mb w wr v' vs' ls' a first) (hf : first = true → ∀ t, ls ≠ [[t]]) : WIn ls B0 mb w wr v' vs' ls' a false :=
  ⟨h.own, h.lvl, h.child, h.sum, h.len, fun _ h => (by cases h), fun hn _ t ht hk3 => by
    cases hff : first with
    | true => exact absurd ht (hf hff t)
    | false => exact h.ex hn hff t ht hk3, h.map, h.grown⟩
theorem none_first {ls : List (List T)} {l : List T} {k j : Nat} (he : ls[k]? = some l) (hl : l.length = j) : decide (k = 0 ∧ j = 0) = true → ∀ t, ls ≠ [[t]] := by
  intro h t e
  have := of_decide_eq_true h
  obtain ⟨rfl, rfl⟩ := this
  subst e
  simp at he
  subst he
  simp at hl
set_option maxRecDepth 100000 in
set_option maxHeartbeats 16000000 in
theorem within_any (ls : List (List T)) (B0 mb : Nat) (AL : Option Addr) (m cL : Nat) (vs : List Value) (w : World) (hm : MapOk B0 w mb) (hmb : B0 ≤ mb) (hr : ReadsQ (fun b => b ≠ mb) w 1 AL m vs) (hl : LvL (fun b => b ≠ mb) (fun b => b < B0) w vs ls) (hW : sumW ls ≤ 100000) (hm9 : m ≤ 1000000) :
    Calls Tryd.prog 50 #[.map (some mb), .slice AL m cL] w (WOut ls B0 mb w) := by
  have hmlt : mb < w.heap.size := by obtain ⟨es, clock, hb, _⟩ := hm; exact (Array.getElem?_eq_some_iff.1 hb).1
  have hvl := hl.len
  have hml : m = vs.length := by have := hr.len; omega
  have HML : Hid (m = ls.length) := Lib.hid (by omega)
  clear hvl hml
  go_enter Tryd.func50, Tryd.ntmps50
  go_wp2_with fail
  go_loopw [5, 13] (fun v i wr => ∃ (k : Nat) (vs' : List Value) (ls' : List (List T)), i = .int .i64 (k : Int) ∧ k ≤ m ∧ WIn ls B0 mb w wr v vs' ls' (sumW (ls.take k)) (decide (k = 0))) (fun _ i _ => m - (intOf i).toNat)
  case atStart => exact ⟨0, [], [], rfl, Nat.zero_le _, World.ownsRow_nil .., rfl, by simp, by simp [sumW], by simp, fun h _ => h, fun _ h => (by simp at h), hm, World.grownBy.refl _ _⟩
  case round =>
    obtain ⟨k, vs', ls', rfl, hk, hI⟩ := hrel
    by_cases hlt : k < m
    · have hltz : (k : Int) < (m : Int) := by omega
      have hkl : k < ls.length := by have := HML.out; omega
      obtain ⟨y, hy, hys⟩ := hl.get hkl
      obtain ⟨ad, hAL, hadm, hadl, hcell⟩ := hr.at_ (by omega)
      have hc : wr.cell? (ad.add k) = some y := by
        have h1 := hcell k y hy
        have h2 := hI.grown.block ad.block hadl (fun e => hadm (by injection e))
        rw [World.cell?_of_block (w := w) (by rw [block_of_add]; exact h2)]
        exact h1
      obtain ⟨A, c, xs, rfl, hc1, hc2, hrx, hlx⟩ := hys
      have HST := Lib.hid (sumW_take_succ ls k hkl)
      have hmem : ls[k] ∈ ls := List.getElem_mem hkl
      have HFS := Lib.hid (fun j (hj : j < ls[k].length) => first_step hkl hj)
      have hfe : ls[k].length = 0 → decide (k = 0) = false → (fun _ : Unit => True) () := fun _ _ => trivial
      have hWk := sumW_take ls (k + 1)
      rw [HST.out] at hWk
      have HMEM := Lib.hid hmem
      have HEQ := Lib.hid (List.getElem?_eq_getElem hkl)
      clear hcell hy hmem hfe
      generalize hL : ls[k] = l at *
      generalize hll : l.length = len at hc hc1 hrx
      have HL := Lib.hid hL
      have HLEN := Lib.hid hll
      clear hL hll
      subst hAL
      clear hl
      go_wp2_with fail
      go_loopw [5, 19] (fun v i wr => ∃ (j : Nat) (vs' : List Value) (ls' : List (List T)), i = .int .i64 (j : Int) ∧ j ≤ len ∧ WIn ls B0 mb w wr v vs' ls' (sumW (ls.take k) + wtL (l.take j)) (decide (k = 0 ∧ j = 0))) (fun _ i _ => len - (intOf i).toNat)
      case atStart => exact ⟨0, vs', ls', rfl, Nat.zero_le _, by simpa [wtL] using hI⟩
      case round =>
        obtain ⟨j, vs2, ls2, rfl, hj, hJ⟩ := hrel
        by_cases hlt2 : j < len
        · have hltz2 : (j : Int) < (len : Int) := by omega
          have hjl : j < l.length := by have := HLEN.out; omega
          have hkg : Keeps (fun b => b < B0) w wr := keeps_map hJ.grown hmb
          obtain ⟨b, o, A', c', rfl, hok, hblt, hRA, g0, g1, g2, g3⟩ := elem_atQ (HLEN.out ▸ hrx.keep (keeps_ne hJ.grown)) (RdL.keep hkg _ _ hlx) hjl
          obtain ⟨hx1, hx2⟩ := HFS.out j hjl
          have HX1 := Lib.hid hx1
          have HX2 := Lib.hid hx2
          have HWT := Lib.hid (wtL_take_succ l j hjl)
          have hxm : l[j] ∈ l := List.getElem_mem hjl
          have HXM := Lib.hid hxm
          have hlen2 := hJ.len
          have hWj := wtL_take l (j + 1)
          rw [HWT.out] at hWj
          have hlen3 := wtL_len
          clear hx1 hx2 hxm
          generalize l[j] = x at *
          by_cases hk3 : x.k = 3
          · have hkb : (x.k != 3) = false := by simpa using hk3
            have HK3 := Lib.hid hk3
            clear hk3
            have HS := Lib.hid (start_of hRA)
            obtain ⟨hcap1, hcap2, ys, hrd, hrdl⟩ := hRA.caps
            have hgrw := hJ.grown
            have hmj := hJ.map
            have HRD := Lib.hid hrd
            have HRDL := Lib.hid hrdl
            have HKG := Lib.hid hkg
            clear hrd hrdl hkg hlen3
            generalize hxl : x.l.length = lx at *
            have HXL := Lib.hid hxl
            clear hxl
            go_wp2_with fail
            refine (rest_any B0 A' lx c' mb wr HS.out hcap1 hcap2 hmj).mono ?_
            rintro e w3 ⟨hm3, hg3, hres⟩
            have hs3 := hg3.size
            have hm3' := hm3
            rcases hres with ⟨rfl, hnn⟩ | ⟨j0, A2, c2, hj0, hj1, hj2, rfl, hj3, hj4⟩
            · have HNN := Lib.hid hnn
              have HM3 := Lib.hid hm3
              clear hnn hm3 hm3'
              go_wp2_with fail
              go_roundw
              case rel => exact ⟨j + 1, vs2, ls2, by go_num, by omega, by rw [HWT.out, ← Nat.add_assoc, decide_eq_false (by omega)]; exact hJ.seen x HX2.out hmb hmlt HM3.out hg3 HNN.out⟩
              case measure => simp [intOf]; omega
            · have hcm2 : c2 ≤ 9223372036854775807 := by omega
              have hls : LvS (fun b => b < B0) (fun b => b < B0) wr (.slice A2 (lx - j0) c2) (x.l.drop j0) := HXL.out ▸ LvS.drop (c := c') (HXL.out.symm ▸ HRD.out.q) HRDL.out (by have := HXL.out; omega) (by have := HXL.out; omega) hcm2 (by have := HXL.out; rw [this]; exact hj4)
              have HLS := Lib.hid (hls.keep (keeps_map hg3 hmb) (keeps_map hg3 hmb))
              have HM3 := Lib.hid hm3
              have HJ3 := Lib.hid hj3
              have hown3 := hJ.own.kept hg3 (.inr (fun e => by have := (own_lt hJ.own _ e).1; omega))
              clear hls hm3 hm3' hj3 hj4
              have hsz := hgrw.size
              have hl2b : ls2.length ≤ 1000000 := by omega
              have HSH := Lib.hid (own_shape hJ.own)
              go_wp2_with (at_builtin; refine append_slice rfl (.tmp 39) (.tmp 41) rfl w.heap.size _ ls2.length _ _ rfl rfl hown3 rfl (by omega) (by omega) ?_; intro v4 w4 hown4 hgr4 hob4)
              go_roundw
              case rel => exact ⟨j + 1, _, _, by go_num, by omega, by rw [HWT.out, ← Nat.add_assoc, decide_eq_false (by omega)]; exact hJ.add x j0 l (HL.out ▸ HMEM.out) HXM.out HK3.out (fun h => by have := of_decide_eq_true h; obtain ⟨rfl, rfl⟩ := this; simp [sumW, wtL]) HX1.out HX2.out hmb hmlt HM3.out hg3 HJ3.out HLS.out hown4 hgr4⟩
              case measure => simp [intOf]; omega
          · have hkb : (x.k != 3) = true := by simpa using hk3
            have hkb2 : (x.k == 3) = false := by simpa using hk3
            have HK3 := Lib.hid hk3
            clear hk3
            clear hlen3
            go_wp2_with fail
            go_roundw
            case rel => exact ⟨j + 1, vs2, ls2, by go_num, by omega, by rw [HWT.out, ← Nat.add_assoc, decide_eq_false (by omega)]; exact hJ.skip x HX1.out HX2.out HK3.out⟩
            case measure => simp [intOf]; omega
        · have hltz2 : ¬ (j : Int) < (len : Int) := by omega
          have hjl : j = len := by omega
          subst hjl
          have HJF := Lib.hid (none_first HEQ.out HLEN.out)
          go_wp2_with fail
          refine ⟨⟨k + 1, vs2, ls2, by go_num, by omega, ?_⟩, by simp [intOf]; omega⟩
          have h1 := hJ.later HJF.out
          rw [List.take_of_length_le (l := l) (i := j) (by have := HLEN.out; omega)] at h1
          rw [HST.out, decide_eq_false (by omega)]
          exact h1
    · have hltz : ¬ (k : Int) < (m : Int) := by omega
      have hkm : k = m := by omega
      subst hkm
      have h1 := hI
      rw [List.take_of_length_le (by have := HML.out; omega)] at h1
      have h2 : decide (k = 0) = ls.isEmpty := by
        have := HML.out
        cases ls with
        | nil => simp at this; simp [this]
        | cons l ls => simp at this; simp [this]
      rw [h2] at h1
      have HI := Lib.hid h1
      clear h1 h2
      go_wp2_with fail
      go_ret
      exact ⟨⟨_, _, _, rfl, HI.out⟩⟩
end Go.Proofs.YtcgcocnbjijdaaaDoor
