/- RingParts and RingNobody return true. Conditions: the tables lie as start-up lays them. -/
import Derived.Test.YtjdehojbkogpkaaDoorGAwk
set_option linter.unusedVariables false
set_option linter.unusedSimpArgs false
set_option maxRecDepth 100000
namespace Go.Proofs.YtjdehojbkogpkaaDoor
open Go Go.RowKit Go.Maps
def idB : ByteArray := ⟨#[105, 100]⟩
def spI (id : Int) : Int := ((crcS (spotS idB id 0)).toNat : Int)
theorem part_yes {w : World} (id n : Int) (hi : I64 id) (hn : mayS n = true) (hT : Four w) : Calls Tryd.prog 10 #[.int .i64 id, .int .i64 n] w (Gives (.tuple #[.int .i64 (spI id % n), .int .i64 0]) w) := by
  have HM := Lib.hid (mayBe_any n w)
  rw [hn] at HM
  have h0 : ¬ n = 0 := by unfold mayS at hn; simp at hn; omega
  have hn1 : ¬ n = -1 := by unfold mayS at hn; simp at hn; omega
  have HS := Lib.hid (spot_any idB id 0 w hi ⟨by omega, by omega⟩ (by decide) hT.tab hT.tabs)
  have hsp := sp_any idB id 0
  unfold spI
  generalize ((crcS (spotS idB id 0)).toNat : Int) = S at *
  unfold InR at hsp
  obtain ⟨s0, s1⟩ := hsp
  clear hT hn hi
  go_enter Tryd.func10, Tryd.ntmps10
  go_wp2_with fail
  refine HM.out.mono ?_
  rintro e w1 ⟨rfl, rfl⟩
  go_wp2_with fail
  refine HS.out.mono ?_
  rintro e w1 ⟨rfl, hb⟩
  go_wp2_with fail
  go_ret2
  exact ⟨rfl, hb⟩
theorem part_no {w : World} (id n : Int) (hn : mayS n = false) : Calls Tryd.prog 10 #[.int .i64 id, .int .i64 n] w (Gives (.tuple #[.int .i64 0, .int .i64 1]) w) := by
  have HM := Lib.hid (mayBe_any n w)
  rw [hn] at HM
  clear hn
  go_enter Tryd.func10, Tryd.ntmps10
  go_wp2_with fail
  refine HM.out.mono ?_
  rintro e w1 ⟨rfl, rfl⟩
  go_wp2_with fail
  go_ret2
  exact ⟨rfl, Below.refl _ _⟩
theorem rpart_yes {w : World} (id n : Int) (hi : I64 id) (hn : mayS n = true) (hT : Four w) : Calls Tryd.prog 11 #[.int .i64 id, .int .i64 n] w (Gives (.tuple #[.int .i64 (spI id % n), .int .i64 0]) w) := by
  have h0 : ¬ n = 0 := by unfold mayS at hn; simp at hn; omega
  have hn1 : ¬ n = -1 := by unfold mayS at hn; simp at hn; omega
  have hn2 : ¬ n < 1 := by unfold mayS at hn; simp at hn; omega
  have hn3 : ¬ 16 < n := by unfold mayS at hn; simp at hn; omega
  have HS := Lib.hid (rspot_any idB id 0 w hi ⟨by omega, by omega⟩ (by decide) hT.tab hT.tabs)
  have hsp := sp_any idB id 0
  unfold spI
  generalize ((crcS (spotS idB id 0)).toNat : Int) = S at *
  unfold InR at hsp
  obtain ⟨s0, s1⟩ := hsp
  clear hT hn hi
  go_enter Tryd.func11, Tryd.ntmps11
  go_wp2_with fail
  refine HS.out.mono ?_
  rintro e w1 ⟨rfl, hb⟩
  go_wp2_with fail
  go_ret2
  exact ⟨rfl, hb⟩
theorem rpart_no {w : World} (id n : Int) (hn : mayS n = false) : Calls Tryd.prog 11 #[.int .i64 id, .int .i64 n] w (Gives (.tuple #[.int .i64 0, .int .i64 1]) w) := by
  have h : n < 1 ∨ (¬ n < 1 ∧ 16 < n) := by unfold mayS at hn; simp at hn; omega
  clear hn
  rcases h with h | ⟨h1, h⟩
  all_goals
    go_enter Tryd.func11, Tryd.ntmps11
    go_wp2_with fail
    go_ret2
    exact ⟨rfl, Below.refl _ _⟩
theorem tmod_in {a n : Int} (ha : 0 ≤ a) (hn : 1 ≤ n) : 0 ≤ a % n ∧ a % n < n := by
  exact ⟨Int.emod_nonneg _ (by omega), Int.emod_lt_of_pos _ (by omega)⟩
set_option maxHeartbeats 2000000 in
theorem ringParts_walk (id n : Int) (w : World) (hi : I64 id) (hT : Four w) : Calls Tryd.prog 4 #[.int .i64 id, .int .i64 n] w (Gives (.bool true) w) := by
  have HT := Lib.hid hT
  rcases hn : mayS n with _ | _
  · have H1 := Lib.hid (part_no (w := w) id n hn)
    have H2 := Lib.hid (fun w : World => rpart_no (w := w) id n hn)
    clear hT hn
    go_enter Tryd.func4, Tryd.ntmps4
    go_wp2_with fail
    refine H1.out.mono ?_
    rintro e w1 ⟨rfl, hb1⟩
    go_wp2_with fail
    refine (H2.out w1).mono ?_
    rintro e w2 ⟨rfl, hb2⟩
    have HA := Lib.hid (awake_any (HT.out.on (below_then hb1 hb2)))
    have HB := Lib.hid (below_then hb1 hb2)
    clear hb1 hb2
    go_wp2_with fail
    refine HA.out.mono ?_
    rintro e w3 ⟨rfl, hb3⟩
    go_wp2_with fail
    go_ret
    exact ⟨rfl, below_then HB.out hb3⟩
  · have H1 := Lib.hid (part_yes (w := w) id n hi hn hT)
    have H2 := Lib.hid (fun (w : World) (hT : Four w) => rpart_yes (w := w) id n hi hn hT)
    have h16 : 1 ≤ n := by unfold mayS at hn; simp at hn; omega
    obtain ⟨t0, t1⟩ := tmod_in (a := spI id) (n := n) (sp_any idB id 0).1 h16
    generalize spI id % n = T at *
    clear hT hn
    go_enter Tryd.func4, Tryd.ntmps4
    go_wp2_with fail
    refine H1.out.mono ?_
    rintro e w1 ⟨rfl, hb1⟩
    go_wp2_with fail
    refine (H2.out w1 (HT.out.on hb1)).mono ?_
    rintro e w2 ⟨rfl, hb2⟩
    have HA := Lib.hid (awake_any (HT.out.on (below_then hb1 hb2)))
    have HB := Lib.hid (below_then hb1 hb2)
    clear hb1 hb2
    go_wp2_with fail
    refine HA.out.mono ?_
    rintro e w3 ⟨rfl, hb3⟩
    go_wp2_with fail
    go_ret
    exact ⟨rfl, below_then HB.out hb3⟩
/-- The two rings that New did not give. -/
theorem nobody_given {w : World} (g : Nat) (hr : Row w g 36 [.pointer none, .slice none 0 0, .slice none 0 0, .map none]) (v : Option Addr) (hv : v = none ∨ v = some ⟨g, 0, none⟩) : ∀ w', Below w.heap.size w w' → GivenIs (.pointer v) false w' := by
  intro w' hb
  rcases hv with rfl | rfl
  · exact given_nil w'
  · exact given_not (hr.keep (hb.block g hr.lt))
set_option maxHeartbeats 4000000 in
theorem ringNobody_walk (n : Int) (w : World) (hT : Four w) : Calls Tryd.prog 5 #[.int .i64 n] w (Gives (.bool true) w) := by
  have HT := Lib.hid hT
  clear hT
  obtain ⟨W, hW⟩ : ∃ W, W = (w.alloc (.cells #[.pointer none, .slice none 0 0, .slice none 0 0, .map none] 36)).alloc (.cells #[.pointer none, .pointer (some ⟨w.heap.size, 0, none⟩)] 24) := ⟨_, rfl⟩
  have hB : Below w.heap.size w W := by rw [hW]; exact ((Below.refl _ w).alloc (Nat.le_refl _) _).alloc (by simp) _
  have r1 : Row W w.heap.size 36 [.pointer none, .slice none 0 0, .slice none 0 0, .map none] := by
    rw [hW]
    exact (Row.new w 36 [.pointer none, .slice none 0 0, .slice none 0 0, .map none]).keep (heap_alloc_lt _ _ (by simp))
  have r2 : Row W (w.heap.size + 1) 24 [.pointer none, .pointer (some ⟨w.heap.size, 0, none⟩)] := by
    rw [hW]
    have := Row.new (w.alloc (.cells #[.pointer none, .slice none 0 0, .slice none 0 0, .map none] 36)) 24 [.pointer none, .pointer (some ⟨w.heap.size, 0, none⟩)]
    rwa [World.size_alloc] at this
  have HW := Lib.hid hW
  have HB := Lib.hid hB
  have HR := Lib.hid (And.intro r1 r2)
  have HN := Lib.hid (fun v => nobody_given w.heap.size r1 v)
  clear hW hB r1 r2
  go_enter Tryd.func5, Tryd.ntmps5
  go_wp2_with fail
  rw [← HW.out]
  generalize hgg : w.heap.size = g at *
  have HGg := Lib.hid hgg
  clear hgg
  go_loopw [4] (fun i wr => ∃ k : Nat, k ≤ 2 ∧ i = .int .i64 (k : Int) ∧ Below W.heap.size W wr) (fun i _ => 2 - (intOf i).toNat)
  case atStart => exact ⟨0, by omega, rfl, Below.refl _ _⟩
  case round =>
    obtain ⟨k, hk, rfl, hb⟩ := hrel
    by_cases hlt : k < 2
    · have hltz : (k : Int) < 2 := by omega
      obtain ⟨v, hv, hx⟩ : ∃ v : Option Addr, (v = none ∨ v = some ⟨g, 0, none⟩) ∧ [Value.pointer none, .pointer (some ⟨g, 0, none⟩)][k]? = some (.pointer v) := by
        rcases k with _ | _ | k
        · exact ⟨none, .inl rfl, rfl⟩
        · exact ⟨_, .inr rfl, rfl⟩
        · omega
      have hGv := HN.out v hv
      have HG := Lib.hid hGv
      have kr : ∀ w', Below W.heap.size W w' → w'.cell? ⟨g + 1, k, none⟩ = some (.pointer v) ∧ g + 1 < w'.heap.size := fun w' hb' => ⟨(HR.out.2.keep (hb'.block _ HR.out.2.lt)).cell hx, Nat.lt_of_lt_of_le HR.out.2.lt hb'.size⟩
      have KR := Lib.hid kr
      obtain ⟨c1, l1⟩ := kr wr hb
      have HH := Lib.hid (home_no (w := wr) (v := v) (g := false) (fun w' hb' => hGv w' (hb.trans (hb'.mono hb.size))) n (.inl rfl))
      have HBr := Lib.hid hb
      clear hGv hv hx hb kr
      go_wp2_with fail
      refine HH.out.mono ?_
      rintro e w2 ⟨rfl, hb2⟩
      have hb02 := HBr.out.trans (hb2.mono HBr.out.size)
      obtain ⟨c2, l2⟩ := KR.out w2 hb02
      have HS := Lib.hid (shards_no (HG.out w2 hb02) n (.inl rfl))
      have HNo := Lib.hid (nodes_no (HG.out w2 hb02))
      have HB02 := Lib.hid hb02
      clear hb2 hb02 c1 l1 HH
      go_wp2_with fail
      refine HS.out.mono ?_
      rintro e w3 ⟨rfl, rfl⟩
      go_wp2_with fail
      refine HNo.out.mono ?_
      rintro e w3 ⟨rfl, rfl⟩
      go_wp2_with fail
      exact ⟨⟨k + 1, hlt, by go_num, HB02.out⟩, by simp [intOf]; omega⟩
    · obtain rfl : k = 2 := by omega
      have hb0 : Below w.heap.size w wr := by rw [HGg.out]; exact HB.out.trans (hb.mono (by rw [← HGg.out]; exact HB.out.size))
      have HA := Lib.hid (awake_any (HT.out.on hb0))
      have HB0 := Lib.hid hb0
      clear hb hb0
      go_wp2_with fail
      refine HA.out.mono ?_
      rintro e w3 ⟨rfl, hb3⟩
      go_wp2_with fail
      go_ret
      exact ⟨rfl, below_then HB0.out hb3⟩
end Go.Proofs.YtjdehojbkogpkaaDoor
