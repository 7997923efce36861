/- The program's move hears. Conditions: a move that New gave; a text that may be, where it goes on. -/
import Derived.Test.YtbjjgjifaomdlaaMvCb
import Derived.Test.YtbjjgjifaomdlaaMvCd
set_option linter.unusedVariables false
set_option linter.unusedSimpArgs false
set_option maxRecDepth 100000
namespace Go.Proofs.Ytbjjgjifaomdlaa.Mv
open Go Go.RowKit
open Po (M msgV)
section
variable {w : World} {p : Nat} {m : Mv} {v : Int} {t : ByteArray}
theorem gone_is {w' : World} {x : M} (hf : FitV m) (ho : open_ m = true) (hv : m.ph = 2 ∨ m.ph = 3 → v = m.vr) (g : GoneOn p m v x w w') : IsM w' p (stepM m x) ∧ Turn (fun b => b = p) w (fun b => b = p) w' := by
  obtain ⟨v', t', hs, h1, h2, h3⟩ := g
  have hp := hf.ph
  have h6 : m.ph ≠ 6 := fun e => by simp [open_, e] at ho
  have h9 : m.ph ≠ 9 := fun e => by simp [open_, e] at ho
  refine ⟨⟨⟨?_, hf.ok⟩, v', t', hs.row, ?_, ?_⟩, hs.turn⟩
  · simp only [stepM]
    omega
  · simp only [stepM]
    intro h
    split
    · rename_i h4
      exact h1 h4
    · rename_i h4
      rw [h2 h4]
      exact hv (by omega)
  · simp only [stepM]
    intro h
    rw [if_pos (by omega)]
    exact h3 (by omega)
/-- Somewhat later. -/
theorem does_on {w1 w2 : World} {val : Value} {e : Ending} (hb : Below w.heap.size w w1) (h : Does p val m w1 e w2) : Does p val m w e w2 :=
  ⟨h.1, h.2.1, (Turn.below _ hb).trans h.2.2⟩
set_option maxHeartbeats 2000000 in
theorem hears_is (h : IsM w p m) (f : Int) (x : M) (hx : x.sh = m.sh → x.nn = m.nm → x.tx.size ≤ 281474976710656) (A : Option Addr) (n c : Nat) (A' : Option Addr) (n' c' : Nat) :
    Calls Try.prog 15 #[ptr p, .int .i64 f, .agg (msgV x A n c A' n' c').toArray] w (Does p (.bool (hearsM m f x).2) (hearsM m f x).1 w) := by
  have hf := h.fit
  have HS := Lib.hid (fun (w' : World) (hb : Below w.heap.size w w') => does_same (val := .bool false) h hb rfl)
  obtain ⟨v, t, hr, hv, _⟩ := h.row
  obtain ⟨W, hW⟩ : ∃ W, W = w.alloc (.cells (msgV x A n c A' n' c').toArray 42) := ⟨_, rfl⟩
  have hb : Below w.heap.size w W := by rw [hW]; exact (Below.refl _ w).alloc (Nat.le_refl _) _
  have RX : Row W w.heap.size 42 (msgV x A n c A' n' c') := by rw [hW]; exact Row.new w _ _
  have RP := hr.keep (hb.block _ hr.lt)
  have HT := step_any hf RP
  have HK := Lib.hid (And.intro RX (And.intro RP hb))
  cases ho : open_ m with
  | false =>
    rw [hears_over ho]
    rw [ho, closed_step ho] at HT
    have HT := Lib.hid HT
    unfold msgV at hW ⊢
    have HW := Lib.hid hW
    clear hW hb RX RP hr hv hf hx h ho
    go_enter Try.func15, Try.ntmps15
    go_wp2_with fail
    rw [← HW.out]
    with_reducible refine HT.out.mono ?_
    rintro e w1 ⟨rfl, hb1⟩
    have HB := Lib.hid (HK.out.2.2.trans (hb1.mono HK.out.2.2.size))
    have hA : ∀ o q, Below w.heap.size w ((w1.alloc o).drewN q) := fun o q => below_drewN (HB.out.alloc HB.out.size _) q
    clear hb1
    go_wp2_with fail
    go_quiet (fail)
    go_wp2
    go_ret
    exact HS.out _ (hA _ _)
  | true =>
    rw [ho, open_step ho] at HT
    have HGO := Lib.hid (fun (W' : World) (hr' : Row W' p 62 (mvC p m v t)) (ht : x.tx.size ≤ 281474976710656) => goOn_any hf ho hr' x ht A n c A' n' c')
    have HBK := Lib.hid (fun (W' : World) (hr' : Row W' p 62 (mvC p m v t)) => back_any hf hr')
    have HGI := Lib.hid (fun (W' w' : World) (g : GoneOn p m v x W' w') => gone_is hf ho hv g)
    have HL := Lib.hid (And.intro (fun h => hears_other (m := m) (f := f) (x := x) h) (And.intro hf ho))
    obtain ⟨⟨m', r⟩, hm⟩ : ∃ y, hearsM m f x = y := ⟨_, rfl⟩
    rw [hm]
    obtain ⟨K, hK⟩ : ∃ K, asks m.ph = K := ⟨_, rfl⟩
    obtain ⟨ND, hN⟩ : ∃ ND, nodeM m = ND := ⟨_, rfl⟩
    rw [hK, hN] at HT
    have HT := Lib.hid HT
    have HKN := Lib.hid (And.intro hm (And.intro hK hN))
    have HXT := Lib.hid hx
    unfold msgV at hW ⊢
    have HW := Lib.hid hW
    have hsz := hb.size
    have hxl := RX.lt
    clear hW hb RX RP hr hv hf hx h ho hm hK hN
    simp only
    go_enter Try.func15, Try.ntmps15
    go_wp2_with fail
    rw [← HW.out]
    with_reducible refine HT.out.mono ?_
    rintro e w1 ⟨rfl, hb1⟩
    have HB := Lib.hid (And.intro (HK.out.2.2.trans (hb1.mono HK.out.2.2.size)) hb1)
    clear hb1
    go_wp2_with fail
    refine wp_world (fun U => Row U w.heap.size 42 (msgV x A n c A' n' c') ∧ Row U p 62 (mvC p m v t) ∧ Below w.heap.size w U ∧ Row U w1.heap.size 71 [.int .i64 K, .int .i64 ND, .int .i64 (K + 1)]) ?_ ?_
    · have k1 := HK.out.1.keep (HB.out.2.block _ HK.out.1.lt)
      have k2 := HK.out.2.1.keep (HB.out.2.block _ HK.out.2.1.lt)
      exact ⟨k1.keep (heap_alloc_lt _ _ k1.lt), k2.keep (heap_alloc_lt _ _ k2.lt), HB.out.1.alloc HB.out.1.size _, Row.new w1 _ _⟩
    intro U HU
    have HU := Lib.hid HU
    have x0 := HU.out.1.cell (j := 0) rfl
    have x1 := HU.out.1.cell (j := 1) rfl
    have x5 := HU.out.1.cell (j := 5) rfl
    have x6 := HU.out.1.cell (j := 6) rfl
    have xl := HU.out.1.lt
    obtain ⟨c1, c2, c3, c4, c5, c6, c7, c8, hp⟩ := cells_of HU.out.2.1
    have s0 := HU.out.2.2.2.cell (j := 0) rfl
    have s1 := HU.out.2.2.2.cell (j := 1) rfl
    have s2 := HU.out.2.2.2.cell (j := 2) rfl
    have hA := Lib.hid (fun q => below_drewN HU.out.2.2.1 q)
    by_cases e1 : f = ND
    rotate_left
    · have n1 : (f != ND) = true := by simp [e1]
      have n2 : decide (f = ND) = false := decide_eq_false e1
      go_quiet (fail)
      go_wp2
      go_ret
      obtain ⟨rfl, rfl⟩ := Prod.mk.inj (HKN.out.1.symm.trans (HL.out.1 (.inl (by rw [HKN.out.2.2]; exact e1))))
      exact HS.out _ (hA.out _)
    by_cases e2 : x.sh = m.sh
    rotate_left
    · have n1 : (f != ND) = false := by simp [e1]
      have n2 : decide (f = ND) = true := decide_eq_true e1
      have n3 : (x.sh != m.sh) = true := by simp [e2]
      have n4 : decide (x.sh = m.sh) = false := decide_eq_false e2
      have e1 := Lib.hid e1
      go_quiet (fail)
      go_wp2
      go_ret
      obtain ⟨rfl, rfl⟩ := Prod.mk.inj (HKN.out.1.symm.trans (HL.out.1 (.inr (.inl e2))))
      exact HS.out _ (hA.out _)
    by_cases e3 : x.nn = m.nm
    rotate_left
    · have n1 : (f != ND) = false := by simp [e1]
      have n2 : decide (f = ND) = true := decide_eq_true e1
      have n3 : (x.sh != m.sh) = false := by simp [e2]
      have n4 : decide (x.sh = m.sh) = true := decide_eq_true e2
      have n5 : (x.nn != m.nm) = true := by simp [e3]
      have n6 : decide (x.nn = m.nm) = false := decide_eq_false e3
      have e1 := Lib.hid e1
      have e2 := Lib.hid e2
      go_quiet (fail)
      go_wp2
      go_ret
      obtain ⟨rfl, rfl⟩ := Prod.mk.inj (HKN.out.1.symm.trans (HL.out.1 (.inr (.inr e3))))
      exact HS.out _ (hA.out _)
    have n1 : (f != ND) = false := by simp [e1]
    have n2 : decide (f = ND) = true := decide_eq_true e1
    have n3 : (x.sh != m.sh) = false := by simp [e2]
    have n4 : decide (x.sh = m.sh) = true := decide_eq_true e2
    have n5 : (x.nn != m.nm) = false := by simp [e3]
    have n6 : decide (x.nn = m.nm) = true := decide_eq_true e3
    have e1 := Lib.hid e1
    have e2 := Lib.hid e2
    have e3 := Lib.hid e3
    go_quiet (fail)
    clear n1 n2 n3 n4 n5 n6
    by_cases k1 : x.kd = K + 1
    · have k2 : (x.kd == K + 1) = true := by simp [k1]
      have k1 := Lib.hid k1
      go_wp2_with (refine Po.ld_msg (by exact HU.out.1) rfl rfl _ rfl rfl ?_)
      refine (HGO.out _ (by exact HU.out.2.1) (HXT.out e2.out e3.out)).mono ?_
      rintro e w3 ⟨rfl, hg⟩
      have HD := Lib.hid (HGI.out _ _ hg)
      clear hg
      go_wp2
      go_ret
      have hm2 : hearsM m f x = (stepM m x, true) := by
        rw [e1.out, ← HKN.out.2.2]
        exact hears_answer HL.out.2.1 HL.out.2.2 x (by rw [k1.out, HKN.out.2.1]) e2.out e3.out
      obtain ⟨rfl, rfl⟩ := Prod.mk.inj (HKN.out.1.symm.trans hm2)
      exact does_on (hA.out _) ⟨rfl, HD.out⟩
    have k2 : (x.kd == K + 1) = false := by simp [k1]
    have k1 := Lib.hid k1
    by_cases q1 : x.kd = 19
    rotate_left
    · have q2 : (x.kd == 19) = false := by simp [q1]
      have q3 : decide (x.kd = 19) = false := decide_eq_false q1
      go_wp2
      go_ret
      obtain ⟨rfl, rfl⟩ := Prod.mk.inj (HKN.out.1.symm.trans (hears_kind x f (by rw [HKN.out.2.1]; exact k1.out) (fun h => q1 h.1)))
      exact HS.out _ (hA.out _)
    have q2 : (x.kd == 19) = true := by simp [q1]
    have q3 : decide (x.kd = 19) = true := decide_eq_true q1
    have q1 := Lib.hid q1
    by_cases r1 : x.vr = K
    rotate_left
    · have r2 : (x.vr == K) = false := by simp [r1]
      have r3 : decide (x.vr = K) = false := decide_eq_false r1
      go_wp2
      go_ret
      obtain ⟨rfl, rfl⟩ := Prod.mk.inj (HKN.out.1.symm.trans (hears_kind x f (by rw [HKN.out.2.1]; exact k1.out) (fun h => r1 (by rw [h.2.2, HKN.out.2.1]))))
      exact HS.out _ (hA.out _)
    have r2 : (x.vr == K) = true := by simp [r1]
    have r3 : decide (x.vr = K) = true := decide_eq_true r1
    have r1 := Lib.hid r1
    by_cases t1 : m.ph ≤ 4
    rotate_left
    · have t2 : decide (m.ph ≤ 4) = false := decide_eq_false t1
      go_wp2
      go_ret
      obtain ⟨rfl, rfl⟩ := Prod.mk.inj (HKN.out.1.symm.trans (hears_kind x f (by rw [HKN.out.2.1]; exact k1.out) (fun h => by have := h.2.1; omega)))
      exact HS.out _ (hA.out _)
    have t2 : decide (m.ph ≤ 4) = true := decide_eq_true t1
    go_wp2_with fail
    refine (HBK.out _ (by exact HU.out.2.1)).mono ?_
    rintro e w3 ⟨rfl, hd⟩
    have HD := Lib.hid hd
    clear hd
    go_wp2
    go_ret
    have hm2 : hearsM m f x = ({ m with ph := 7 }, true) := by
      rw [e1.out, ← HKN.out.2.2]
      exact hears_moved HL.out.2.1 t1 x q1.out e2.out e3.out (by rw [r1.out, HKN.out.2.1])
    obtain ⟨rfl, rfl⟩ := Prod.mk.inj (HKN.out.1.symm.trans hm2)
    exact does_on (hA.out _) ⟨rfl, HD.out⟩
end
end Go.Proofs.Ytbjjgjifaomdlaa.Mv
