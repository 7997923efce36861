/- What settle of package logs does to a log in memory: it keeps the bytes from the last block that is not full on, in a row of its own. Conditions: a log in memory. -/
import Derived.Test.YtkehojgiappiiaaGreatDoorLogM
set_option linter.unusedVariables false
set_option linter.unusedSimpArgs false
namespace Go.Proofs.YtkehojgiappiiaaGreatDoor
open Go Go.RowKit
theorem bytes_one (l : List UInt8) : ∀ u ∈ Lib.byteCells l, u.oneCell' = true := by
  intro u hu
  unfold Lib.byteCells at hu
  obtain ⟨x, _, rfl⟩ := List.mem_map.1 hu
  rfl
theorem byteCells_drop (l : List UInt8) (k : Nat) : (Lib.byteCells l).drop k = Lib.byteCells (l.drop k) := by
  unfold Lib.byteCells
  rw [List.map_drop]
section
variable {w w' : World} {G : Nat → Prop} {p d t f n : Nat} {R : List (List UInt8)} {vr : Value} {st : Nat} {A : Option Addr} {m c : Nat} {E : List UInt8}
theorem LgR.setStart (h : LgR w G p d t f n R vr st A m c E) (s : Nat) : LgR (w.setCell ⟨p, 7, none⟩ (.int .i64 (s : Int))) G p d t f n R vr s A m c E := by
  have hk : ∀ b, b ≠ p → (w.setCell ⟨p, 7, none⟩ (.int .i64 (s : Int))).heap[b]? = w.heap[b]? := fun b hb => heap_set_ne w ⟨p, 7, none⟩ _ hb
  refine ⟨h.box.set 7 _, own_keep h.rc fun g hg => hk g (h.er g hg).1, ⟨h.en.1, fun hm => ?_⟩, h.mc, h.er, h.ea, h.an, h.gp, fun b hb => by rw [World.size_setCell]; exact h.lt b hb⟩
  obtain ⟨ad, e, hb, hc⟩ := h.en.2 hm
  exact ⟨ad, e, by rw [World.size_setCell]; exact hb, fun j u hu => (World.cell?_of_block (a := ad.add j) (by rw [block_of_add]; exact hk _ (h.ea ad e).1)).trans (hc j u hu)⟩
/-- Another row of bytes is put into it. -/
theorem LgR.putEnd (h : LgR w G p d t f n R vr st A m c E) {A' : Option Addr} {c' : Nat} {E' : List UInt8} (hown : w.ownsRow 0 5 1 (.slice A' E'.length c') E'.length (Lib.byteCells E'))
    (hnew : ∀ g, (Value.slice A' E'.length c').ownBlock = some g → ¬ G g) :
    LgW (w.setCell ⟨p, 8, none⟩ (.slice A' E'.length c')) (fun b => G b ∨ (Value.slice A' E'.length c').ownBlock = some b) p d t f n R vr st A' E'.length c' E' := by
  have hk : ∀ b, b ≠ p → (w.setCell ⟨p, 8, none⟩ (.slice A' E'.length c')).heap[b]? = w.heap[b]? := fun b hb => heap_set_ne w ⟨p, 8, none⟩ _ hb
  have hn : ∀ g, (Value.slice A' E'.length c').ownBlock = some g → g ≠ p := fun g hg e => hnew g hg (e ▸ h.gp)
  have ho : (w.setCell ⟨p, 8, none⟩ (.slice A' E'.length c')).ownsRow 0 5 1 (.slice A' E'.length c') E'.length (Lib.byteCells E') := own_keep hown fun g hg => hk g (hn g hg)
  have hq : E'.length ≤ c' ∧ c' ≤ maxLen := by
    obtain ⟨_, _, e, h1, h2⟩ := own_shape hown
    injection e with _ _ e
    subst e
    exact ⟨h1, h2⟩
  refine ⟨⟨h.box.set 8 _, own_keep h.rc fun g hg => hk g (h.er g hg).1, Reads.of_own ho, hq, fun g hg => ⟨(h.er g hg).1, .inl (h.er g hg).2⟩, fun ad e => ?_, fun e => ?_, .inl h.gp, fun b hb => ?_⟩, ho, fun g hg e => hnew g e (h.er g hg).2⟩
  · subst e
    exact ⟨hn _ rfl, .inr rfl⟩
  · subst e
    rcases hown.2 with ⟨e, _⟩ | ⟨g, cap, cur, e, _⟩
    · injection e
    · injection e with e _ _
      cases e
  · rw [World.size_setCell]
    rcases hb with hb | hb
    · exact h.lt b hb
    · exact (hown.lt b hb).2
set_option maxHeartbeats 2000000 in
set_option maxRecDepth 100000 in
theorem settle_any (h : LgR w G p d t f n R vr st A m c E) (hm : m ≤ 3000000) (hst : st ≤ 100000) : Calls Tryz.prog 27 #[.pointer (some ⟨p, 0, none⟩)] w fun e w' =>
    e = .returned (.tuple #[]) ∧ ∃ G' A' c', LgW w' G' p d t f n R vr (st + m / 128) A' (m - 128 * (m / 128)) c' (E.drop (128 * (m / 128))) ∧ Turn G w G' w' := by
  have hlen := h.len
  obtain ⟨k, hk⟩ : ∃ k, k = m / 128 := ⟨_, rfl⟩
  have hkz : (m : Int) / 128 = (k : Int) := by omega
  have hkm : 128 * k ≤ m := by omega
  have hmod : m - 128 * k = (E.drop (128 * k)).length := by rw [List.length_drop]; omega
  rw [← hk, hmod]
  have H1 := h.setStart (st + k)
  have hk8 : ((k : Int) * 128) ≤ (m : Int) := by omega
  have c7 := h.c7
  have c8 := h.c8
  have z7 := h.z 7
  have pl := h.pl
  have hmc := h.mc
  have hT1 : Turn G w G (w.setCell ⟨p, 7, none⟩ (.int .i64 ((st + k : Nat) : Int))) := Turn.set G w (a := ⟨p, 7, none⟩) h.gp _
  rw [Int.natCast_add] at H1 hT1
  obtain ⟨W1, hW1⟩ : ∃ W1, W1 = w.setCell ⟨p, 7, none⟩ (.int .i64 ((st : Int) + (k : Int))) := ⟨_, rfl⟩
  rw [← hW1] at H1 hT1
  have HW := Lib.hid (And.intro H1 hT1)
  have d8 := H1.c8
  have y8 := H1.z 8
  have pl1 := H1.pl
  have hs1 : W1.heap.size = w.heap.size := by rw [hW1]; simp
  have HLN := Lib.hid (And.intro hlen hmod)
  obtain ⟨i0, hi, hz0, hz1, hz2⟩ := info_parts byte_row
  have hrd := H1.en
  have fin : ∀ v' w', w'.ownsRow 0 5 1 v' (E.drop (128 * k)).length (Lib.byteCells (E.drop (128 * k))) → W1.grownBy w' none → (v'.ownBlock = none ∨ v'.ownBlock = some W1.heap.size) → ∃ A' c', v' = .slice A' (E.drop (128 * k)).length c' ∧ w'.cell? ⟨p, 8, none⟩ = some (.slice A m c) ∧ w'.frozen? ⟨p, 8, none⟩ = false ∧ p < w'.heap.size ∧
      ∃ G', LgW (w'.setCell ⟨p, 8, none⟩ v') G' p d t f n R vr (st + k) A' (E.drop (128 * k)).length c' (E.drop (128 * k)) ∧ Turn G w G' (w'.setCell ⟨p, 8, none⟩ v') := by
    intro v' w' hown hg hob
    obtain ⟨A', c', rfl, _, _⟩ := own_shape hown
    have hb := below_of_grown hg rfl
    have H2 := HW.out.1.below hb
    have hnew : ∀ g, (Value.slice A' (E.drop (128 * k)).length c').ownBlock = some g → ¬ G g := fun g hg' hG => by
      have := HW.out.1.lt g hG
      rcases hob with e | e
      · rw [e] at hg'; cases hg'
      · rw [e] at hg'; injection hg' with hg'; omega
    have H3 := H2.putEnd hown hnew
    refine ⟨A', c', rfl, H2.c8, H2.z 8, H2.pl, _, H3, ?_⟩
    have T2 : Turn G w G (w'.setCell ⟨p, 8, none⟩ (.slice A' (E.drop (128 * k)).length c')) := (HW.out.2.trans (Turn.below G hb)).trans (Turn.set G w' (a := ⟨p, 8, none⟩) H2.gp _)
    refine ⟨T2.os, T2.tape, T2.output, T2.size, T2.block, fun b hb' => ?_⟩
    rcases hb' with hb' | hb'
    · exact .inl hb'
    · rcases hob with e | e
      · rw [e] at hb'; cases hb'
      · rw [e] at hb'; injection hb' with hb'; exact .inr (by omega)
  have HF := Lib.hid fin
  clear h H1 hT1 hlen hmod hk fin
  have hc0 := HW.out.1.an
  rcases A with _ | ad0
  · obtain rfl : c = 0 := hc0 rfl
    obtain rfl : m = 0 := by omega
    obtain rfl : k = 0 := by omega
    have hnil : E.drop (128 * 0) = [] := List.drop_eq_nil_of_le (by have := HLN.out.1; omega)
    have hl0 : 0 = (E.drop (128 * 0)).length := by rw [hnil]; rfl
    have hz : ∀ (Wx : World) (Ax : Option Addr), Reads Wx 0 1 Ax 0 (Lib.byteCells (E.drop (128 * 0))) := fun Wx Ax => by rw [hnil]; exact Reads.none_
    have HZ := Lib.hid (And.intro hz hl0)
    rw [show (st : Int) + ((0 : Nat) : Int) = (st : Int) by simp] at hW1
    clear hrd hz hl0 hnil hc0 hkz hkm hk8 hmc
    go_enter Tryz.func27, Tryz.ntmps27
    go_wp2_with (at_builtin; rw [← hW1]; refine wpList_append_any _ rfl _ (.tmp 24) 55 rfl 0 5 i0 _ 1 1 Tryz.underlying55 hi hz0 hz1 hz2 rfl (by decide) (.slice none 0 0) 0 [] rfl (World.ownsRow_nil ..) _ _ 0 _ _ rfl (HZ.out.1 _ _) (bytes_one _) (by unfold maxLen; omega) (by omega) (Nat.zero_le _) ?_; intro v' w1 hown hg2 hob; rw [Nat.zero_add, List.nil_append] at hown; replace hown := own_n HZ.out.2 hown; obtain ⟨A', c', rfl, hx8, hy8, hpl, G', HL, HT⟩ := HF.out _ _ hown hg2 hob)
    go_end0
    simp only [List.length_drop] at HL HT ⊢
    exact ⟨trivial, G', A', c', HL, HT⟩
  by_cases hck : c = 128 * k
  · obtain rfl : m = 128 * k := by omega
    subst hck
    have hnil : E.drop (128 * k) = [] := List.drop_eq_nil_of_le (by have := HLN.out.1; omega)
    have hz : ∀ (Wx : World) (Ax : Option Addr), Reads Wx 0 1 Ax (128 * k - 128 * k) (Lib.byteCells (E.drop (128 * k))) := fun Wx Ax => by rw [hnil]; exact ⟨by simp [Lib.byteCells] <;> omega, fun h => by omega⟩
    have hl0 : 128 * k - 128 * k = (E.drop (128 * k)).length := by rw [hnil]; simp <;> omega
    have HZ := Lib.hid (And.intro hz hl0)
    have hkm2 : (k : Int) * 128 = ((128 * k : Nat) : Int) := by omega
    clear hrd hz hl0 hnil hc0
    go_enter Tryz.func27, Tryz.ntmps27
    go_wp2_with (at_builtin; rw [← hW1]; refine wpList_append_any _ rfl _ (.tmp 24) 55 rfl 0 5 i0 _ 1 1 Tryz.underlying55 hi hz0 hz1 hz2 rfl (by decide) (.slice none 0 0) 0 [] rfl (World.ownsRow_nil ..) _ _ (128 * k - 128 * k) _ _ rfl (HZ.out.1 _ _) (bytes_one _) (by unfold maxLen; omega) (by omega) (Nat.zero_le _) ?_; intro v' w1 hown hg2 hob; rw [Nat.zero_add, List.nil_append] at hown; replace hown := own_n HZ.out.2 hown; obtain ⟨A', c', rfl, hx8, hy8, hpl, G', HL, HT⟩ := HF.out _ _ hown hg2 hob)
    go_end0
    exact ⟨rfl, G', A', c', by simpa only [List.length_drop] using HL, by simpa only [List.length_drop] using HT⟩
  · have hrc := hrd.cut (k := 128 * k) (cap := c) (by omega) hmc.1
    rw [if_neg hck, Nat.mul_one, byteCells_drop, Option.map_some, show 128 * k = k * 128 by omega] at hrc
    have hl0 : m - k * 128 = (E.drop (128 * k)).length := by rw [← HLN.out.2]; omega
    have HRC := Lib.hid (And.intro hrc hl0)
    have hck2 : ¬ c = k * 128 := by omega
    clear hrc hrd hc0 hck hl0
    go_enter Tryz.func27, Tryz.ntmps27
    go_wp2_with (at_builtin; rw [← hW1]; refine wpList_append_any _ rfl _ (.tmp 24) 55 rfl 0 5 i0 _ 1 1 Tryz.underlying55 hi hz0 hz1 hz2 rfl (by decide) (.slice none 0 0) 0 [] rfl (World.ownsRow_nil ..) _ _ (m - k * 128) _ _ rfl HRC.out.1 (bytes_one _) (by unfold maxLen; omega) (by omega) (Nat.zero_le _) ?_; intro v' w1 hown hg2 hob; rw [Nat.zero_add, List.nil_append, HRC.out.2, show k * 128 = 128 * k by omega] at hown; obtain ⟨A', c', rfl, hx8, hy8, hpl, G', HL, HT⟩ := HF.out _ _ hown hg2 hob)
    go_end0
    exact ⟨rfl, G', A', c', by simpa only [List.length_drop] using HL, by simpa only [List.length_drop] using HT⟩
end
end Go.Proofs.YtkehojgiappiiaaGreatDoor
