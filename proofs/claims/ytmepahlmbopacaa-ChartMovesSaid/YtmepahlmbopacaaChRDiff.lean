/- What diff, Diff and SameMoves of the document's answers return. Conditions: the lists read as such. -/
import Derived.Test.YtmepahlmbopacaaChDiff
import Derived.Deep.RegionLaw
set_option linter.unusedVariables false
set_option linter.unusedSimpArgs false
set_option maxRecDepth 100000
namespace Go.Proofs.Ytmepahlmbopacaa.Ct
open Go Go.RowKit
theorem news_move (w : World) (m : Mv) : ∀ j u, [Value.int .i64 m.s, .int .i64 m.f, .int .i64 m.t][j]? = some u → (w.alloc (.cells #[.int .i64 m.s, .int .i64 m.f, .int .i64 m.t] 26)).cell? ((⟨w.heap.size, 0, none⟩ : Addr).add j) = some u :=
  news_cells w #[.int .i64 m.s, .int .i64 m.f, .int .i64 m.t] 26
set_option maxHeartbeats 4000000 in
theorem rdiff_any {w : World} {B B' : Nat} {A A' : Option Addr} {n c c' : Nat} {l l' : List Int} (hR : Reads w B 1 A n (ints l)) (hB : B ≤ w.heap.size) (hR' : Reads w B' 1 A' n (ints l')) (hB' : B' ≤ w.heap.size) (hm : n ≤ 1000) :
    Calls Try.prog 17 #[.slice A n c, .slice A' n c'] w fun en w' =>
      ∃ v, en = .returned v ∧ w'.ownsRow w.heap.size 26 3 v (dm l l' n).length (mvs (dm l l' n)) ∧ Below w.heap.size w w' := by
  obtain ⟨i0, hi, hz0, hz1, hz2⟩ := info_parts move_row
  have KR := Lib.hid (fun wr (hb : Below w.heap.size w wr) => And.intro ((hR.more hB).below hb) ((hR'.more hB').below hb))
  clear hR hR' hB hB'
  go_enter Try.func17, Try.ntmps17
  go_wp2_with fail
  go_loopw [5, 6] (fun v i wr => ∃ (va : Value) (k : Nat), va = v ∧ i = .int .i64 (k : Int) ∧ k ≤ n ∧ wr.ownsRow w.heap.size 26 3 va (dm l l' k).length (mvs (dm l l' k)) ∧ Below w.heap.size w wr) (fun _ i _ => n - (intOf i).toNat)
  case atStart => exact ⟨_, 0, rfl, rfl, Nat.zero_le _, World.ownsRow_nil .., Below.refl _ _⟩
  case round =>
    obtain ⟨va, k, rfl, rfl, hk, hown, hb⟩ := hrel
    by_cases hlt : k < n
    · obtain ⟨hRa, hRb⟩ := KR.out wr hb
      obtain ⟨ad, rfl, hab, hc⟩ := hRa.int_at hlt
      obtain ⟨ad', rfl, hab', hc'⟩ := hRb.int_at hlt
      have hws := hb.size
      have hadl : (ad.add k).block < wr.heap.size := by rw [block_of_add]; omega
      have hadl' : (ad'.add k).block < wr.heap.size := by rw [block_of_add]; omega
      have hltz : (k : Int) < (n : Int) := by omega
      have hdl := dm_len l l' k
      have hnx := Lib.hid (@dm_next l l' k)
      have hsk := Lib.hid (@dm_skip l l' k)
      have HH := Lib.hid (And.intro hown hb)
      clear hown hb hRa hRb
      generalize l.getD k 0 = x at *
      generalize l'.getD k 0 = y at *
      generalize dm l l' k = D at *
      by_cases hxy : x = y
      · have HN := Lib.hid (hsk.out hxy)
        subst hxy
        clear hnx hsk
        go_wp2_with fail
        go_quiet (fail)
        go_wp2_with fail
        exact ⟨⟨_, k + 1, rfl, by go_num, hlt, by rw [HN.out]; exact HH.out.1, below_drewN HH.out.2 _⟩, by simp [intOf]; omega⟩
      · have hyx : (x != y) = true := by rw [bne_iff_ne]; exact hxy
        have HN := Lib.hid (hnx.out hxy)
        clear hnx hsk
        go_wp2_with fail
        go_quiet (fail)
        go_wp2_with fail
        go_region_law (refine step_append_lies _ rfl (.tmp 28) (.tmp 39) 28 rfl w.heap.size 26 i0 (.agg #[.int .i64 0, .int .i64 0, .int .i64 0]) 3 24 Try.underlying28 hi hz0 hz1 hz2 rfl (by decide) va D.length (mvs D) rfl (by first | exact HH.out.1.alloc _ | exact (own_drewN HH.out.1 _).alloc _) _ 1 1 _ rfl rfl (news_move _ ⟨(k : Int), x, y⟩) (by intro u hu; simp at hu; rcases hu with rfl | rfl | rfl <;> rfl) (by decide) (by unfold maxLen; omega) (by omega) (by simp; omega) _ rfl ?_; intro g cap w3 hown3 hgr3 hlies hlt3)
        all_goals (
          go_wp2_with fail
          refine ⟨⟨_, k + 1, rfl, by go_num, hlt, ?_, ?_⟩, by simp [intOf]; omega⟩
          · rw [HN.out, List.length_append, mvs_app, mvs_one]
            exact hown3
          · exact own_grown (w1 := (wr.drewN _).alloc _) ((below_drewN HH.out.2 _).alloc hws _) (HH.out.1.alloc _) hgr3 (by simp; omega))
    · obtain rfl : k = n := by omega
      have hnl : ¬ (k : Int) < (k : Int) := by omega
      have HH := Lib.hid (And.intro hown hb)
      clear hown hb
      go_wp2_with fail
      go_ret
      exact ⟨_, rfl, HH.out.1, HH.out.2⟩
set_option maxHeartbeats 4000000 in
theorem rDiff_any {w : World} {B B' : Nat} {A A' : Option Addr} {n n' c c' : Nat} {l l' : List Int} (e e' : Int) (hR : Reads w B 1 A n (ints l)) (hB : B ≤ w.heap.size) (hR' : Reads w B' 1 A' n' (ints l')) (hB' : B' ≤ w.heap.size) (hm : n ≤ maxLen) (hm' : n' ≤ maxLen) :
    Calls Try.prog 8 #[.agg #[.int .i64 e, .slice A n c], .agg #[.int .i64 e', .slice A' n' c']] w fun en w' =>
      ∃ v, en = .returned (.tuple #[v, .int .i64 (diffE e l e' l')]) ∧ w'.ownsRow w.heap.size 26 3 v (diffL e l e' l').length (mvs (diffL e l e' l')) ∧ Below w.heap.size w w' := by
  have hln := hR.len
  have hln' := hR'.len
  obtain ⟨W, hW⟩ : ∃ W, W = (w.alloc (.cells #[.int .i64 e, .slice A n c] 24)).alloc (.cells #[.int .i64 e', .slice A' n' c'] 24) := ⟨_, rfl⟩
  have hB0 : Below w.heap.size w W := by rw [hW]; exact ((Below.refl _ w).alloc (Nat.le_refl _) _).alloc (by simp) _
  have r1 : Row W w.heap.size 24 [.int .i64 e, .slice A n c] := by
    rw [hW]
    exact (Row.new w 24 [.int .i64 e, .slice A n c]).keep (heap_alloc_lt _ _ (by simp))
  have r2 : Row W (w.heap.size + 1) 24 [.int .i64 e', .slice A' n' c'] := by
    rw [hW]
    have := Row.new (w.alloc (.cells #[.int .i64 e, .slice A n c] 24)) 24 [.int .i64 e', .slice A' n' c']
    rwa [World.size_alloc] at this
  have hR1 := (hR.more hB).below hB0
  have hR2 := (hR'.more hB').below hB0
  have HC1 := Lib.hid (may_any (c := c) e hR1 hB0.size hm)
  have KC2 := Lib.hid (fun w1 (hb : Below W.heap.size W w1) => may_any (c := c') e' (hR2.below (hb.mono hB0.size)) (Nat.le_trans hB0.size hb.size) hm')
  have KR := Lib.hid (fun w1 (hb : Below W.heap.size W w1) => And.intro (r1.keep (hb.block _ r1.lt)) (And.intro (r2.keep (hb.block _ r2.lt)) (And.intro (hR1.below (hb.mono hB0.size)) (hR2.below (hb.mono hB0.size)))))
  have HW := Lib.hid hW
  have HB0 := Lib.hid hB0
  have hlnn : (n = n') ↔ l.length = l'.length := by omega
  have HLN := Lib.hid (And.intro hln hln')
  have hDE : diffE e l e' l' = if mayC e l = true ∧ mayC e' l' = true ∧ n = n' then 0 else 1 := by unfold diffE; simp only [hlnn]
  have hDL : diffL e l e' l' = if mayC e l = true ∧ mayC e' l' = true ∧ n = n' then dm l l' l.length else [] := by unfold diffL; simp only [hlnn]
  have hsml : mayC e l = true → n ≤ 16 := fun h => by rw [mayC_iff] at h; omega
  rw [hDE, hDL]
  clear hDE hDL hlnn hln hln' hR hR' hB hB' hR1 hR2 hB0 hW r1 r2 hm hm'
  generalize mayC e l = b1 at *
  generalize mayC e' l' = b2 at *
  have KX := Lib.hid (fun w2 (hb : Below W.heap.size W w2) => show (w2.cell? ⟨w.heap.size, 1, none⟩ = some (.slice A n c) ∧ w2.cell? ⟨w.heap.size + 1, 0, none⟩ = some (.int .i64 e') ∧ w2.cell? ⟨w.heap.size + 1, 1, none⟩ = some (.slice A' n' c') ∧ w.heap.size < w2.heap.size ∧ w.heap.size + 1 < w2.heap.size) from
    ⟨(KR.out w2 hb).1.cell (j := 1) rfl, (KR.out w2 hb).2.1.cell (j := 0) rfl, (KR.out w2 hb).2.1.cell (j := 1) rfl, (KR.out w2 hb).1.lt, (KR.out w2 hb).2.1.lt⟩)
  rcases b1 with _ | _
  · rw [if_neg (by simp), if_neg (by simp)]
    clear hsml
    go_enter Try.func8, Try.ntmps8
    go_wp2_with fail
    rw [← HW.out]
    refine HC1.out.mono ?_
    rintro en w1 ⟨rfl, hb1⟩
    have HB1 := Lib.hid (HB0.out.trans (hb1.mono HB0.out.size))
    clear hb1
    go_wp2_with fail
    go_ret2
    exact ⟨_, rfl, World.ownsRow_nil .., HB1.out⟩
  · rcases b2 with _ | _
    · rw [if_neg (by simp), if_neg (by simp)]
      clear hsml
      go_enter Try.func8, Try.ntmps8
      go_wp2_with fail
      rw [← HW.out]
      refine HC1.out.mono ?_
      rintro en w1 ⟨rfl, hb1⟩
      obtain ⟨x0, x1, x2, x3, x4⟩ := KX.out w1 hb1
      have HC2 := Lib.hid (KC2.out w1 hb1)
      have HB1 := Lib.hid (HB0.out.trans (hb1.mono HB0.out.size))
      clear hb1
      go_wp2_with fail
      refine HC2.out.mono ?_
      rintro en w2 ⟨rfl, hb2⟩
      have HB2 := Lib.hid (below_then HB1.out hb2)
      clear hb2
      go_wp2_with fail
      go_ret2
      exact ⟨_, rfl, World.ownsRow_nil .., HB2.out⟩
    · have hn16 := hsml rfl
      clear hsml
      by_cases hnn : n = n'
      · rw [if_pos ⟨rfl, rfl, hnn⟩, if_pos ⟨rfl, rfl, hnn⟩]
        subst hnn
        go_enter Try.func8, Try.ntmps8
        go_wp2_with fail
        rw [← HW.out]
        refine HC1.out.mono ?_
        rintro en w1 ⟨rfl, hb1⟩
        obtain ⟨x0, x1, x2, x3, x4⟩ := KX.out w1 hb1
        have HC2 := Lib.hid (KC2.out w1 hb1)
        have HB1 := Lib.hid hb1
        clear hb1
        go_wp2_with fail
        refine HC2.out.mono ?_
        rintro en w2 ⟨rfl, hb2⟩
        clear x0 x1 x2 x3 x4
        have hbW := below_then HB1.out hb2
        obtain ⟨x0, x1, x2, x3, x4⟩ := KX.out w2 hbW
        obtain ⟨_, _, hRa, hRb⟩ := KR.out w2 hbW
        have HB2 := Lib.hid hbW
        have HD := Lib.hid (rdiff_any (c := c) (c' := c') hRa (Nat.le_trans HB0.out.size hbW.size) hRb (Nat.le_trans HB0.out.size hbW.size) (show n ≤ 1000 by omega))
        clear hb2 hbW hRa hRb
        go_wp2_with fail
        refine HD.out.mono ?_
        rintro en w3 ⟨v, rfl, hown, hb3⟩
        rw [HLN.out.1] at hown
        have hs1 := HB0.out.size
        have hs2 := HB2.out.size
        have HH := Lib.hid (And.intro (own_base hown (show w.heap.size ≤ w2.heap.size by omega)) (HB0.out.trans ((below_then HB2.out hb3).mono HB0.out.size)))
        clear hown hb3
        go_wp2_with fail
        go_ret2
        exact ⟨_, rfl, HH.out.1, HH.out.2⟩
      · rw [if_neg (by simpa using hnn), if_neg (by simpa using hnn)]
        have hnz : ((n : Int) != (n' : Int)) = true := by rw [bne_iff_ne]; omega
        go_enter Try.func8, Try.ntmps8
        go_wp2_with fail
        rw [← HW.out]
        refine HC1.out.mono ?_
        rintro en w1 ⟨rfl, hb1⟩
        obtain ⟨x0, x1, x2, x3, x4⟩ := KX.out w1 hb1
        have HC2 := Lib.hid (KC2.out w1 hb1)
        have HB1 := Lib.hid hb1
        clear hb1
        go_wp2_with fail
        refine HC2.out.mono ?_
        rintro en w2 ⟨rfl, hb2⟩
        clear x0 x1 x2 x3 x4
        obtain ⟨x0, x1, x2, x3, x4⟩ := KX.out w2 (below_then HB1.out hb2)
        have HB2 := Lib.hid (below_then HB1.out hb2)
        clear hb2
        go_wp2_with fail
        go_ret2
        exact ⟨_, rfl, World.ownsRow_nil .., HB0.out.trans (HB2.out.mono HB0.out.size)⟩
end Go.Proofs.Ytmepahlmbopacaa.Ct
