/- What diff, Diff and SameMoves of the document's answers return. Conditions: the lists read as such. -/
import Derived.Test.YtmepahlmbopacaaDoorChDiff
import Derived.Deep.RegionLaw
set_option linter.unusedVariables false
set_option linter.unusedSimpArgs false
set_option maxRecDepth 100000
namespace Go.Proofs.YtmepahlmbopacaaDoor.Ct
open Go Go.RowKit
theorem news_move (w : World) (m : Mv) : ∀ j u, [Value.int .i64 m.s, .int .i64 m.f, .int .i64 m.t][j]? = some u → (w.alloc (.cells #[.int .i64 m.s, .int .i64 m.f, .int .i64 m.t] 39)).cell? ((⟨w.heap.size, 0, none⟩ : Addr).add j) = some u :=
  news_cells w #[.int .i64 m.s, .int .i64 m.f, .int .i64 m.t] 39
set_option maxHeartbeats 4000000 in
theorem rdiff_any {w : World} {B B' : Nat} {A A' : Option Addr} {n c c' : Nat} {l l' : List Int} (hR : Reads w B 1 A n (ints l)) (hB : B ≤ w.heap.size) (hR' : Reads w B' 1 A' n (ints l')) (hB' : B' ≤ w.heap.size) (hm : n ≤ 1000) :
    Calls Tryd.prog 25 #[.slice A n c, .slice A' n c'] w fun en w' =>
      ∃ v, en = .returned v ∧ w'.ownsRow w.heap.size 39 3 v (dm l l' n).length (mvs (dm l l' n)) ∧ Below w.heap.size w w' := by
  obtain ⟨i0, hi, hz0, hz1, hz2⟩ := info_parts move_row
  have KR := Lib.hid (fun wr (hb : Below w.heap.size w wr) => And.intro ((hR.more hB).below hb) ((hR'.more hB').below hb))
  clear hR hR' hB hB'
  go_enter Tryd.func25, Tryd.ntmps25
  go_wp2_with fail
  go_loopw [5, 6] (fun v i wr => ∃ (va : Value) (k : Nat), va = v ∧ i = .int .i64 (k : Int) ∧ k ≤ n ∧ wr.ownsRow w.heap.size 39 3 va (dm l l' k).length (mvs (dm l l' k)) ∧ Below w.heap.size w wr) (fun _ i _ => n - (intOf i).toNat)
  case atStart => exact ⟨_, 0, rfl, rfl, Nat.zero_le _, World.ownsRow_nil .., Below.refl _ _⟩
  case round =>
    obtain ⟨va, k, rfl, rfl, hk, hown, hb⟩ := hrel
    by_cases hlt : k < n
    · obtain ⟨hRa, hRb⟩ := KR.out wr hb
      obtain ⟨ad, rfl, hab, hc⟩ := hRa.int_at hlt
      obtain ⟨ad', rfl, hab', hc'⟩ := hRb.int_at hlt
      have hws := hb.size
      have hadl : (ad.add k).block < wr.heap.size := by rw [block_of_add]; omega
      have hadl' : (ad'.add k).block < wr.heap.size := by rw [block_of_add]; omega
      have hltz : (k : Int) < (n : Int) := by omega
      have hdl := dm_len l l' k
      have hnx := Lib.hid (@dm_next l l' k)
      have hsk := Lib.hid (@dm_skip l l' k)
      have HH := Lib.hid (And.intro hown hb)
      clear hown hb hRa hRb
      generalize l.getD k 0 = x at *
      generalize l'.getD k 0 = y at *
      generalize dm l l' k = D at *
      by_cases hxy : x = y
      · have HN := Lib.hid (hsk.out hxy)
        subst hxy
        clear hnx hsk
        go_wp2_with fail
        go_quiet (fail)
        go_wp2_with fail
        exact ⟨⟨_, k + 1, rfl, by go_num, hlt, by rw [HN.out]; exact HH.out.1, below_drewN HH.out.2 _⟩, by simp [intOf]; omega⟩
      · have hyx : (x != y) = true := by rw [bne_iff_ne]; exact hxy
        have HN := Lib.hid (hnx.out hxy)
        clear hnx hsk
        go_wp2_with fail
        go_quiet (fail)
        go_wp2_with fail
        go_region_law (refine step_append_lies _ rfl (.tmp 28) (.tmp 39) 30 rfl w.heap.size 39 i0 (.agg #[.int .i64 0, .int .i64 0, .int .i64 0]) 3 24 Tryd.underlying30 hi hz0 hz1 hz2 rfl (by decide) va D.length (mvs D) rfl (by first | exact HH.out.1.alloc _ | exact (own_drewN HH.out.1 _).alloc _) _ 1 1 _ rfl rfl (news_move _ ⟨(k : Int), x, y⟩) (by intro u hu; simp at hu; rcases hu with rfl | rfl | rfl <;> rfl) (by decide) (by unfold maxLen; omega) (by omega) (by simp; omega) _ rfl ?_; intro g cap w3 hown3 hgr3 hlies hlt3)
        all_goals (
          go_wp2_with fail
          refine ⟨⟨_, k + 1, rfl, by go_num, hlt, ?_, ?_⟩, by simp [intOf]; omega⟩
          · rw [HN.out, List.length_append, mvs_app, mvs_one]
            exact hown3
          · exact own_grown (w1 := (wr.drewN _).alloc _) ((below_drewN HH.out.2 _).alloc hws _) (HH.out.1.alloc _) hgr3 (by simp; omega))
    · obtain rfl : k = n := by omega
      have hnl : ¬ (k : Int) < (k : Int) := by omega
      have HH := Lib.hid (And.intro hown hb)
      clear hown hb
      go_wp2_with fail
      go_ret
      exact ⟨_, rfl, HH.out.1, HH.out.2⟩
end Go.Proofs.YtmepahlmbopacaaDoor.Ct
