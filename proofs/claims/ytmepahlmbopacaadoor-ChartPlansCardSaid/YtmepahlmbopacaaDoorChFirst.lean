/- What First of package chart returns. Conditions: the nodes read as a list; the tables lie as start-up lays them. -/
import Derived.Test.YtmepahlmbopacaaDoorChRing
set_option linter.unusedVariables false
set_option linter.unusedSimpArgs false
set_option maxRecDepth 100000
namespace Go.Proofs.YtmepahlmbopacaaDoor.Ct
open Go Go.RowKit Go.Maps
def firstE (l : List Int) (P n : Int) : Int := if newB l P = false ∨ mayS n = false then 1 else if l = [] then 3 else 0
def FirstPost (l : List Int) (P n : Int) (w : World) (en : Ending) (w' : World) : Prop := ∃ (E : Int) (A1 : Option Addr) (n1 c1 : Nat) (H : List Int),
  en = .returned (.tuple #[.agg #[.int .i64 E, .slice A1 n1 c1], .int .i64 (firstE l P n)]) ∧ Reads w' w'.heap.size 1 A1 n1 (ints H) ∧ n1 ≤ c1 ∧ c1 ≤ maxLen ∧
  (firstE l P n = 0 ∧ E = 1 ∧ (n1 : Int) = n ∧ Homes (zof l P.toNat) n H ∨ firstE l P n ≠ 0 ∧ E = 0 ∧ H = []) ∧ Below w.heap.size w w'
theorem FirstPost.bad {l : List Int} {P n k : Int} {w w' : World} (h : firstE l P n = k) (hk : k ≠ 0) (hb : Below w.heap.size w w') : FirstPost l P n w (.returned (.tuple #[.agg #[.int .i64 0, .slice none 0 0], .int .i64 k])) w' :=
  ⟨0, none, 0, 0, [], by rw [h], Reads.none_, Nat.le_refl _, by unfold maxLen; omega, .inr ⟨by omega, rfl, rfl⟩, hb⟩
theorem zof_nil {l : List Int} {P : Nat} (hP : 1 ≤ P) : zof l P = [] ↔ l = [] := by
  constructor
  · intro h
    have h2 := zof_len l P
    rw [h] at h2
    simp only [List.length_nil] at h2
    rcases l with _ | ⟨x, r⟩
    · rfl
    · exfalso
      rw [List.length_cons] at h2
      have h3 := Nat.mul_pos (show 0 < r.length + 1 by omega) (show 0 < P by omega)
      omega
  · rintro rfl
    rfl
set_option maxHeartbeats 4000000 in
theorem first_any {w : World} {B : Nat} {A : Option Addr} {m c : Nat} {l : List Int} (hR : Reads w B 1 A m (ints l)) (hB : B ≤ w.heap.size) (hm : m ≤ maxLen) (P n : Int) (hT : Four w) :
    Calls Tryd.prog 7 #[.slice A m c, .int .i64 P, .int .i64 n] w (FirstPost l P n w) := by
  have hln := hR.len
  subst hln
  obtain ⟨W, hW⟩ : ∃ W, W = w.alloc (.cells #[.int .i64 0, .slice none 0 0] 24) := ⟨_, rfl⟩
  have hB0 : Below w.heap.size w W := by rw [hW]; exact (Below.refl _ w).alloc (Nat.le_refl _) _
  have r0 : Row W w.heap.size 24 [.int .i64 0, .slice none 0 0] := by rw [hW]; exact Row.new w 24 [.int .i64 0, .slice none 0 0]
  have hRW := ((hR.more hB).below hB0).more hB0.size
  have hTW := hT.on hB0
  have KR := Lib.hid (fun w1 (hb : Below W.heap.size W w1) => r0.keep (hb.block _ r0.lt))
  have HW := Lib.hid hW
  have HB0 := Lib.hid hB0
  clear hR hB hB0 r0 hW hT
  by_cases hnb : newB l P = false
  · have HN := Lib.hid (new_no (c := c) hRW (Nat.le_refl _) hm hnb)
    have HE := Lib.hid (show firstE l P n = 1 by unfold firstE; rw [if_pos (.inl hnb)])
    clear hRW hTW hnb hm
    generalize l.length = m at *
    go_enter Tryd.func7, Tryd.ntmps7
    go_wp2_with fail
    rw [← HW.out]
    refine HN.out.mono ?_
    rintro e w1 ⟨rfl, hb1⟩
    have rr := KR.out w1 hb1
    have x0 := rr.cell (j := 0) rfl
    have x1 := rr.cell (j := 1) rfl
    have f0 := rr.frozen 0
    have f1 := rr.frozen 1
    have xl := rr.lt
    have HRR := Lib.hid (And.intro rr (HB0.out.trans (hb1.mono HB0.out.size)))
    clear rr hb1
    go_wp2_with fail
    have rs := (HRR.out.1.set 0 (.int .i64 0)).set 1 (.slice none 0 0)
    have g0 := rs.cell (j := 0) rfl
    have g1 := rs.cell (j := 1) rfl
    refine bodyPost_ret (v := .tuple #[.agg #[.int .i64 0, .slice none 0 0], .int .i64 1]) (by simp [results, Tryd.results7, go_sem, g0, g1]) rfl (FirstPost.bad HE.out (by decide) ?_)
    exact below_setCell (below_setCell HRR.out.2 (p := ⟨w.heap.size, 0, none⟩) (Nat.le_refl _) _) (p := ⟨w.heap.size, 1, none⟩) (Nat.le_refl _) _
  · rw [Bool.not_eq_false] at hnb
    have hgp := hnb
    unfold newB at hgp
    rw [Bool.and_eq_true] at hgp
    obtain ⟨hg, hp⟩ := hgp
    have hp : 1 ≤ P ∧ P ≤ 64 := by simpa using hp
    obtain ⟨Pn, rfl⟩ : ∃ Pn : Nat, P = (Pn : Int) := ⟨P.toNat, by omega⟩
    have hG := goodB_iff.1 hg
    have hl8 := good_len hG
    have HN := Lib.hid (new_any (w := W) (c := c) hRW hG hl8 Pn (by omega) (by omega) hTW)
    have HL := Lib.hid hl8
    have HP := Lib.hid (And.intro hp hnb)
    have HT := Lib.hid hTW
    have hzl : (zof l Pn).length ≤ 100000 := by
      rw [zof_len]
      have := Nat.mul_le_mul hl8 (show Pn ≤ 64 by omega)
      omega
    clear hRW hTW hm hg hp hnb hG hl8
    by_cases hms : mayS n = false
    · have HE := Lib.hid (show firstE l (Pn : Int) n = 1 by unfold firstE; rw [if_pos (.inr hms)])
      go_enter Tryd.func7, Tryd.ntmps7
      go_wp2_with fail
      rw [← HW.out]
      refine HN.out.mono ?_
      rintro e w1 ⟨p, rfl, hring, hb1⟩
      have HS := Lib.hid (shards_no hring n hms)
      have rr := KR.out w1 hb1
      have x0 := rr.cell (j := 0) rfl
      have x1 := rr.cell (j := 1) rfl
      have f0 := rr.frozen 0
      have f1 := rr.frozen 1
      have xl := rr.lt
      have HRR := Lib.hid (And.intro rr (HB0.out.trans (hb1.mono HB0.out.size)))
      clear rr hb1 hring
      go_wp2_with fail
      refine HS.out.mono ?_
      rintro e w2 ⟨rfl, rfl⟩
      go_wp2_with fail
      have rs := (HRR.out.1.set 0 (.int .i64 0)).set 1 (.slice none 0 0)
      have g0 := rs.cell (j := 0) rfl
      have g1 := rs.cell (j := 1) rfl
      refine bodyPost_ret (v := .tuple #[.agg #[.int .i64 0, .slice none 0 0], .int .i64 1]) (by simp [results, Tryd.results7, go_sem, g0, g1]) rfl (FirstPost.bad HE.out (by decide) ?_)
      exact below_setCell (below_setCell HRR.out.2 (p := ⟨w.heap.size, 0, none⟩) (Nat.le_refl _) _) (p := ⟨w.heap.size, 1, none⟩) (Nat.le_refl _) _
    · rw [Bool.not_eq_false] at hms
      have hnr : 1 ≤ n ∧ n ≤ 16 := by unfold mayS at hms; simpa using hms
      obtain ⟨nn, rfl⟩ : ∃ nn : Nat, n = (nn : Int) := ⟨n.toNat, by omega⟩
      have hfe : firstE l (Pn : Int) (nn : Int) = if l = [] then 3 else 0 := by
        unfold firstE
        rw [if_neg (by rw [HP.out.2, hms]; simp)]
      have HFE := Lib.hid hfe
      have HMS := Lib.hid hnr
      clear hms hnr hfe
      go_enter Tryd.func7, Tryd.ntmps7
      go_wp2_with fail
      rw [← HW.out]
      refine HN.out.mono ?_
      rintro e w1 ⟨p, rfl, hring, hb1⟩
      have HS := Lib.hid (shards_any hring hzl nn (by have := HMS.out; omega) (by have := HMS.out; omega) (HT.out.on hb1))
      have HB1 := Lib.hid hb1
      clear hring hb1
      go_wp2_with fail
      refine HS.out.mono ?_
      rintro e w2 ⟨hor, hb2⟩
      have hb12 := below_then HB1.out hb2
      have rr := KR.out w2 hb12
      have x0 := rr.cell (j := 0) rfl
      have x1 := rr.cell (j := 1) rfl
      have f0 := rr.frozen 0
      have f1 := rr.frozen 1
      have xl := rr.lt
      have HRR := Lib.hid (And.intro rr (And.intro (HB0.out.trans (hb12.mono HB0.out.size)) hb2))
      clear rr hb12 hb2
      rcases hor with ⟨hZ, rfl⟩ | ⟨hZ, H, hHl, hHs, rfl, hRH⟩
      · have HE := Lib.hid (show firstE l (Pn : Int) (nn : Int) = 3 by rw [HFE.out, if_pos ((zof_nil (by have := HP.out.1; omega)).1 hZ)])
        clear hZ
        go_wp2_with fail
        have rs := (HRR.out.1.set 0 (.int .i64 0)).set 1 (.slice none 0 0)
        have g0 := rs.cell (j := 0) rfl
        have g1 := rs.cell (j := 1) rfl
        refine bodyPost_ret (v := .tuple #[.agg #[.int .i64 0, .slice none 0 0], .int .i64 3]) (by simp [results, Tryd.results7, go_sem, g0, g1]) rfl (FirstPost.bad HE.out (by decide) ?_)
        exact below_setCell (below_setCell HRR.out.2.1 (p := ⟨w.heap.size, 0, none⟩) (Nat.le_refl _) _) (p := ⟨w.heap.size, 1, none⟩) (Nat.le_refl _) _
      · have HE := Lib.hid (show firstE l (Pn : Int) (nn : Int) = 0 by rw [HFE.out, if_neg (fun h => hZ ((zof_nil (by have := HP.out.1; omega)).2 h))])
        have HH := Lib.hid (And.intro hHl (And.intro hHs hRH))
        clear hZ hHl hHs hRH
        go_wp2_with fail
        have rs := (HRR.out.1.set 0 (.int .i64 1)).set 1 (.slice (some ⟨w1.heap.size, 0, none⟩) nn nn)
        have g0 := rs.cell (j := 0) rfl
        have g1 := rs.cell (j := 1) rfl
        have hsz : ((w2.setCell ⟨w.heap.size, 0, none⟩ (.int .i64 1)).setCell ⟨w.heap.size, 1, none⟩ (.slice (some ⟨w1.heap.size, 0, none⟩) nn nn)).heap.size = w2.heap.size := by simp
        refine bodyPost_ret (v := .tuple #[.agg #[.int .i64 1, .slice (some ⟨w1.heap.size, 0, none⟩) nn nn], .int .i64 0]) (by simp [results, Tryd.results7, go_sem, g0, g1]) rfl ⟨1, _, nn, nn, H, by rw [HE.out], ?_, Nat.le_refl _, by have := HMS.out; unfold maxLen; omega, .inl ⟨HE.out, rfl, rfl, by rw [Int.toNat_natCast]; exact HH.out.2.1⟩, ?_⟩
        · have hne : ∀ ad, (some ⟨w1.heap.size, 0, none⟩ : Option Addr) = some ad → ad.block ≠ w.heap.size := fun ad hA => by
            injection hA with hA
            subst hA
            show w1.heap.size ≠ w.heap.size
            have h1 := HB1.out.size
            have h2 : W.heap.size = w.heap.size + 1 := by rw [HW.out]; simp
            omega
          rw [hsz]
          exact reads_set_ne (reads_set_ne HH.out.2.2 hne _ _) hne _ _
        · exact below_setCell (below_setCell HRR.out.2.1 (p := ⟨w.heap.size, 0, none⟩) (Nat.le_refl _) _) (p := ⟨w.heap.size, 1, none⟩) (Nat.le_refl _) _
end Go.Proofs.YtmepahlmbopacaaDoor.Ct
