/- What Same of the document's answers says of points that are the same; Points by a tree's points alone. Conditions: the slices read as points. -/
import Derived.Test.YtkgapieikgniiaaVPts
import Derived.Test.YtkgapieikgniiaaVAwk
set_option linter.unusedVariables false
set_option linter.unusedSimpArgs false
namespace Go.Proofs.Ytkgapieikgniiaa
open Go Go.RowKit Go.Maps
theorem t_pts {w : World} {F : Nat → Prop} {t dim : Nat} {T : List Pnt} (h : Tree w F t dim T) : Calls Try.prog 17 #[.pointer (some ⟨t, 0, none⟩)] w (PtsPost T w) := by
  obtain ⟨⟨bm, fm, rv, N, B, U, hm, hp⟩, hr⟩ := h
  exact vpts_any hm hp hr
theorem ptAt_bare {l l' : List Pt} (he : l.map bareP = l'.map bareP) (k : Nat) (h1 : k < l.length) (h2 : k < l'.length) : (ptAt l k).1 = (ptAt l' k).1 ∧ (ptAt l k).2.2 = (ptAt l' k).2.2 := by
  have e := congrArg (fun z => z[k]?) he
  simp only [List.getElem?_map, List.getElem?_eq_getElem h1, List.getElem?_eq_getElem h2, Option.map_some] at e
  have e : bareP l[k] = bareP l'[k] := Option.some.inj e
  unfold ptAt
  rw [List.getD_eq_getElem?_getD, List.getD_eq_getElem?_getD, List.getElem?_eq_getElem h1, List.getElem?_eq_getElem h2]
  exact ⟨congrArg (fun z : Pnt => z.1) e, congrArg (fun z : Pnt => z.2) e⟩
set_option maxHeartbeats 4000000 in
set_option maxRecDepth 100000 in
theorem q8same_any (A A' : Option Addr) (n m c c' B B' : Nat) (l l' : List Pt) (w : World) (h : Pts w B A n l) (h' : Pts w B' A' m l') (hB : B ≤ w.heap.size) (hB' : B' ≤ w.heap.size) (hm : n ≤ 1000000) (he : l.map bareP = l'.map bareP) :
    Calls Try.prog 16 #[.slice A n c, .slice A' m c'] w (Says (.bool true) w) := by
  have e1 := h.len
  have e2 := h'.len
  have e3 : l.length = l'.length := by have := congrArg List.length he; simpa using this
  obtain rfl : n = m := by omega
  have HE := Lib.hid he
  have HP := Lib.hid h
  have HP' := Lib.hid h'
  have HL := Lib.hid (And.intro e1 e2)
  clear e1 e2 e3 he h h'
  go_enter Try.func16, Try.ntmps16
  go_wp2_with fail
  go_loopw [5] (fun vi wr => ∃ (i q : Nat), i ≤ n ∧ vi = .int .i64 i ∧ wr = w.drewN q) (fun vi _ => n - (intOf vi).toNat)
  case atStart => exact ⟨0, 0, by omega, rfl, rfl⟩
  case round =>
    obtain ⟨i, q, hi, rfl, rfl⟩ := hrel
    by_cases hlt : i < n
    · have hiz : (i : Int) < (n : Int) := by omega
      obtain ⟨ad, hA, hab, hil, x0, x1, hg⟩ := HP.out.at_ hlt
      obtain ⟨ad', hA', hab', hil', y0, y1, hg'⟩ := HP'.out.at_ hlt
      subst hA hA'
      obtain ⟨s1, s2⟩ := ptAt_bare HE.out i hil hil'
      generalize ptAt l i = P at *
      generalize ptAt l' i = P' at *
      obtain ⟨px, ⟨pA, pn, pc⟩, pl⟩ := P
      obtain ⟨py, ⟨qA, qn, qc⟩, ql⟩ := P'
      simp only at s1 s2 x0 x1 y0 y1
      subst s1 s2
      have r1 := hg.1.1
      have r2 := hg'.1.1
      simp only at r1 r2
      have k1 : pn ≤ maxLen := hg.1.2
      obtain rfl : pn = qn := by have a := r1.len; have b := r2.len; omega
      unfold maxLen at k1
      have R1 := Lib.hid r1
      have R2 := Lib.hid r2
      have cl : (ad.add (i * 2)).block < w.heap.size := by rw [block_of_add]; omega
      have cl' : (ad'.add (i * 2)).block < w.heap.size := by rw [block_of_add]; omega
      clear r1 r2 hg hg' hab hab' hil hil'
      have hn0 : ((pn : Int) != (pn : Int)) = false := by simp
      go_wp2_with fail
      go_quiet (fail)
      go_wp2_with fail
      go_loopw [6] (fun vk wr => ∃ (k q' : Nat), k ≤ pn ∧ vk = .int .i64 k ∧ wr = w.drewN q') (fun vk _ => pn - (intOf vk).toNat)
      case atStart => exact ⟨0, _, by omega, rfl, by first | rfl | exact World.drewN_drewN ..⟩
      case round =>
        obtain ⟨k, q', hk, rfl, rfl⟩ := hrel
        by_cases hkl : k < pn
        · have hkz : (k : Int) < (pn : Int) := by omega
          obtain ⟨b1, hb1, hbl1, z1⟩ := R1.out.int_at hkl
          obtain ⟨b2, hb2, hbl2, z2⟩ := R2.out.int_at hkl
          subst hb1 hb2
          have g1 : (b1.add k).block < w.heap.size := by rw [block_of_add]; omega
          have g2 : (b2.add k).block < w.heap.size := by rw [block_of_add]; omega
          generalize pl.getD k 0 = z at *
          go_wp2_with fail
          go_quiet (fail)
          go_wp2_with fail
          go_roundw
          case rel => exact ⟨k + 1, _, by omega, by go_num, by first | rfl | exact World.drewN_drewN ..⟩
          case measure => simp [intOf]; omega
        · have hkz : ¬ (k : Int) < (pn : Int) := by omega
          go_wp2_with fail
          go_roundw
          case rel => exact ⟨i + 1, _, by omega, by go_num, rfl⟩
          case measure => simp [intOf]; omega
    · have hiz : ¬ (i : Int) < (n : Int) := by omega
      go_wp2_with fail
      go_ret
      exact ⟨rfl, q, rfl⟩
end Go.Proofs.Ytkgapieikgniiaa
