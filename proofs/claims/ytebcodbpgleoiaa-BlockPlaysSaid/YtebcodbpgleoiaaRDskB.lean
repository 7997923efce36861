/- What Get and with of the document's disk return. Conditions: a disk in memory. -/
import Derived.Test.YtebcodbpgleoiaaRDskA
set_option linter.unusedVariables false
set_option linter.unusedSimpArgs false
namespace Go.Proofs.Ytebcodbpgleoiaa
open Go Go.RowKit
theorem box2 (w : World) (c0 c1 : Value) (T : TypeId) : (w.alloc (.cells #[c0, c1] T)).cell? ⟨w.heap.size, 0, none⟩ = some c0 ∧ (w.alloc (.cells #[c0, c1] T)).cell? ⟨w.heap.size, 1, none⟩ = some c1 := by
  have hb := heap_alloc_new w (.cells #[c0, c1] T)
  constructor <;> simp only [World.cell?, hb] <;> rfl
def GPost (w : World) (s : ByteArray) (er : Int) (e : Ending) (w' : World) : Prop := e = .returned (.tuple #[.string s, .int .i64 er]) ∧ Below w.heap.size w w'
theorem rget_any {w : World} {P : Nat → Prop} {v : Value} {su : List ByteArray} {l : List (Nat × ByteArray)} (h : RD w P v su l) (k : Nat) (hk : k < su.length) (hl : l.length ≤ 1000000) (hs : su.length ≤ 1000000) : Calls Try.prog 14 #[v, .int .i64 (k : Int)] w (GPost w ((setsP l su).getD k ⟨#[]⟩) 0) := by
  obtain ⟨a, b, rfl, h1, h2⟩ := h.ex
  obtain ⟨A1, c1, rfl, hc1, hm1⟩ := h1.shape
  obtain ⟨A2, c2, rfl, hc2, hm2⟩ := h2.shape
  obtain ⟨x0, x1⟩ := box2 w (.slice A1 su.length c1) (.slice A2 l.length c2) 31
  obtain ⟨ad, c, e, hp, hcell, _⟩ := h1.str hk
  have hkz : (k : Int) < (su.length : Int) := by omega
  have hkz0 : ¬ (k : Int) < 0 := by omega
  injection e with e1 e2 e3
  subst e1 e3
  obtain ⟨W, hW⟩ : ∃ W, W = w.alloc (.cells #[.slice (some ad) su.length c1, .slice A2 l.length c2] 31) := ⟨_, rfl⟩
  have hB : Below w.heap.size w W := by rw [hW]; exact (Below.refl _ w).alloc (Nat.le_refl _) _
  rw [← hW] at x0 x1
  have hlt : w.heap.size < W.heap.size := by rw [hW]; simp
  have hcW : W.cell? (ad.add k) = some (.string (su.getD k ⟨#[]⟩)) := (hB.cell (p := ad.add k) (by rw [block_of_add]; exact h.lt _ hp)).trans hcell
  have h2W := h2.below (h.lt) hB
  have hlw : ad.block < W.heap.size := Nat.lt_trans (h.lt _ hp) hlt
  have HX := Lib.hid (And.intro hB (And.intro h2W (And.intro hk h.lt)))
  clear hB h2W h h1 h2 hp hcell hc2 hm2
  obtain ⟨Z, hZ⟩ : ∃ Z, (setsP l su).getD k ⟨#[]⟩ = Z := ⟨_, rfl⟩
  rw [hZ]
  have HZ := Lib.hid hZ
  clear hZ
  go_enter Try.func14, Try.ntmps14
  go_wp2_with fail
  rw [← hW]
  clear hW
  go_wp2_with fail
  go_loopw [6] (fun i wr => ∃ m : Nat, i = .int .i64 ((m : Int) - 1) ∧ m ≤ l.length ∧ Hid ((setsP (l.take m) su).getD k ⟨#[]⟩ = Z) ∧ W = wr) (fun i _ => (intOf i + 1).toNat)
  case atStart => exact ⟨l.length, by go_num, Nat.le_refl _, Lib.hid (by rw [List.take_length]; exact HZ.out), rfl⟩
  case round =>
    obtain ⟨m, rfl, hm, HM, rfl⟩ := hrel
    rcases m with _ | m
    · have hv : su.getD k ⟨#[]⟩ = Z := HM.out
      rw [hv] at hcW
      clear hv HM
      go_wp2_with fail
      go_ret2
      exact ⟨rfl, HX.out.1⟩
    · have hm0 : (0 : Int) ≤ ((m + 1 : Nat) : Int) - 1 := by omega
      obtain ⟨ad2, c2', e', hp2, d0, d1, hcc, hmm⟩ := HX.out.2.1.wr (k := m) (by omega)
      injection e' with e1 e2 e3
      subst e1 e3
      have hlw2 : ad2.block < W.heap.size := Nat.lt_of_lt_of_le (HX.out.2.2.2 _ hp2) HX.out.1.size
      have hs := setsP_last (List.getElem?_eq_getElem (show m < l.length by omega)) k su
      rw [HM.out] at hs
      generalize hp : l[m] = p at *
      by_cases hpk : p.1 = k
      · rw [if_pos ⟨hpk, HX.out.2.2.1⟩] at hs
        rw [← hs] at d1
        have hpz : (p.1 : Int) = (k : Int) := by omega
        rw [hpz] at d0
        have hme : ((m + 1 : Nat) : Int) - 1 = (m : Int) := by omega
        have hml : (m : Int) < (l.length : Int) := by omega
        clear hs HM hp hpk hm
        rw [hme] at hm0 ⊢
        clear hme
        go_wp2_with fail
        go_ret2
        exact ⟨rfl, HX.out.1⟩
      · rw [if_neg (fun hh => hpk hh.1)] at hs
        have hpz : ¬ (p.1 : Int) = (k : Int) := by omega
        have HLE := Lib.hid (show m ≤ l.length by omega)
        have HS := Lib.hid hs
        clear hs HM hp hpk
        have hme : ((m + 1 : Nat) : Int) - 1 = (m : Int) := by omega
        have hml : (m : Int) < (l.length : Int) := by omega
        rw [hme] at hm0 ⊢
        go_wp2_with fail
        go_roundw
        case rel => exact ⟨m, by go_num, HLE.out, Lib.hid HS.out.symm, by trivial⟩
        case measure => simp [intOf]
theorem rget_no {w : World} {P : Nat → Prop} {v : Value} {su : List ByteArray} {l : List (Nat × ByteArray)} (h : RD w P v su l) (z : Int) (hz : z < 0 ∨ (su.length : Int) ≤ z) : Calls Try.prog 14 #[v, .int .i64 z] w (GPost w ⟨#[]⟩ 1) := by
  obtain ⟨a, b, rfl, h1, h2⟩ := h.ex
  obtain ⟨A1, c1, rfl, hc1, hm1⟩ := h1.shape
  obtain ⟨x0, x1⟩ := box2 w (.slice A1 su.length c1) b 31
  obtain ⟨W, hW⟩ : ∃ W, W = w.alloc (.cells #[.slice A1 su.length c1, b] 31) := ⟨_, rfl⟩
  have hB : Below w.heap.size w W := by rw [hW]; exact (Below.refl _ w).alloc (Nat.le_refl _) _
  rw [← hW] at x0 x1
  have hlt : w.heap.size < W.heap.size := by rw [hW]; simp
  have HX := Lib.hid hB
  clear hB h h1 h2
  by_cases h0 : z < 0
  · clear hz
    go_enter Try.func14, Try.ntmps14
    go_wp2_with fail
    rw [← hW]
    clear hW
    go_wp2_with fail
    go_ret2
    exact ⟨rfl, HX.out⟩
  · have h1 : (su.length : Int) ≤ z := by omega
    clear hz
    go_enter Try.func14, Try.ntmps14
    go_wp2_with fail
    rw [← hW]
    clear hW
    go_wp2_with fail
    go_ret2
    exact ⟨rfl, HX.out⟩
end Go.Proofs.Ytebcodbpgleoiaa
