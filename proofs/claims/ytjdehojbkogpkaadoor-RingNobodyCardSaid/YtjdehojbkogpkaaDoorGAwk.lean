/- What Shards and Part return; awake of the laws. Conditions: a ring that New gave, in memory; the tables lie as start-up lays them. -/
import Derived.Test.YtjdehojbkogpkaaDoorGHome
import Derived.Test.YtjdehojbkogpkaaDoorGSame
import Derived.Deep.OwnRows
set_option linter.unusedVariables false
set_option linter.unusedSimpArgs false
set_option maxRecDepth 100000
namespace Go.Proofs.YtjdehojbkogpkaaDoor
open Go Go.RowKit Go.Maps
def mayS (n : Int) : Bool := decide (1 ≤ n ∧ n ≤ 16)
theorem mayBe_any (n : Int) (w : World) : Calls Tryd.prog 23 #[.int .i64 n] w fun e w' => e = .returned (.bool (mayS n)) ∧ w = w' := by
  go_enter Tryd.func23, Tryd.ntmps23
  go_wp2
  all_goals go_ret
  all_goals exact ⟨ret_bool (by unfold mayS; rw [Bool.eq_iff_iff]; simp; try omega), rfl⟩
theorem shards_no {w : World} {v : Option Addr} {g : Bool} (hg : GivenIs (.pointer v) g w) (n : Int) (hs : g = false ∨ mayS n = false) :
    Calls Tryd.prog 12 #[.pointer v, .int .i64 n] w fun e w' => e = .returned (.tuple #[.slice none 0 0, .int .i64 1]) ∧ w = w' := by
  have HG := Lib.hid hg
  unfold GivenIs at HG
  have HM := Lib.hid (mayBe_any n w)
  clear hg
  rcases g with _ | _
  · clear hs
    go_enter Tryd.func12, Tryd.ntmps12
    go_wp2_with fail
    refine HG.out.mono ?_
    rintro e w1 ⟨rfl, rfl⟩
    go_wp2_with fail
    go_ret2
    exact ⟨rfl, rfl⟩
  · have hs : mayS n = false := by simpa using hs
    rw [hs] at HM
    go_enter Tryd.func12, Tryd.ntmps12
    go_wp2_with fail
    refine HG.out.mono ?_
    rintro e w1 ⟨rfl, rfl⟩
    go_wp2_with fail
    refine HM.out.mono ?_
    rintro e w1 ⟨rfl, rfl⟩
    go_wp2_with fail
    go_ret2
    exact ⟨rfl, rfl⟩
theorem nodes_no {w : World} {v : Option Addr} (hg : GivenIs (.pointer v) false w) : Calls Tryd.prog 13 #[.pointer v] w fun e w' => e = .returned (.slice none 0 0) ∧ w = w' := by
  have HG := Lib.hid hg
  unfold GivenIs at HG
  clear hg
  go_enter Tryd.func13, Tryd.ntmps13
  go_wp2_with fail
  refine HG.out.mono ?_
  rintro e w1 ⟨rfl, rfl⟩
  go_wp2_with fail
  go_ret
  exact ⟨rfl, rfl⟩
def threes (k : Nat) : List Int := List.replicate k 3 ++ List.replicate (3 - k) 0
theorem threes_set (k : Nat) (hk : k < 3) : (ints (threes k)).set k (.int .i64 3) = ints (threes (k + 1)) := by
  rcases k with _ | _ | _ | k
  · rfl
  · rfl
  · rfl
  · omega
theorem threes_len (k : Nat) (hk : k ≤ 3) : (threes k).length = 3 := by simp [threes]; omega
theorem IsRing.row {w : World} {p : Nat} {Z : List (Int × Int)} (h : IsRing w p Z) : GivenIs (.pointer (some ⟨p, 0, none⟩)) true w := by
  obtain ⟨nv, A, c, bm, PS, PL, f, h⟩ := h
  exact given_any h.row
theorem sp_any (kind : ByteArray) (a b : Int) : InR ((crcS (spotS kind a b)).toNat : Int) := by
  have := (crcS (spotS kind a b)).isLt
  unfold InR
  omega
set_option maxHeartbeats 4000000 in
/-- Of a ring that the node 3 has alone. -/
theorem shards3 {w : World} {p : Nat} {Z : List (Int × Int)} (h : IsRing w p Z) (hZ : Z.length ≤ 100000) (hne : Z ≠ []) (h3 : ∀ x ∈ Z, x.1 = 3) (hT : Four w) :
    Calls Tryd.prog 12 #[.pointer (some ⟨p, 0, none⟩), .int .i64 3] w fun e w' => ∃ ad, e = .returned (.tuple #[.slice (some ad) 3 3, .int .i64 0]) ∧ Reads w' w'.heap.size 1 (some ad) 3 (ints [3, 3, 3]) ∧ Below w.heap.size w w' := by
  have hmk : ∀ w : World, (Instr.makeSlice 23 (.int .i64 3) (.int .i64 3)).run Tryd.prog w = .ok (.slice (some ⟨w.heap.size, 0, none⟩) 3 3) (w.alloc (.cells (madeCells #[.int .i64 0] 3) 3)) := run_make_row' (P := Tryd.prog) 23 3 (.int .i64 0) 8 Tryd.underlying23 int_row rfl .i64 .i64 3 (by omega) (by omega)
  have HG := Lib.hid h.row
  unfold GivenIs at HG
  have HM := Lib.hid (mayBe_any 3 w)
  have hm : mayS 3 = true := by decide
  rw [hm] at HM
  have hr0 : Row (w.alloc (.cells (madeCells #[.int .i64 0] 3) 3)) w.heap.size 3 (ints (threes 0)) := by
    have e : madeCells #[.int .i64 0] 3 = (ints (threes 0)).toArray := Array.toList_inj.1 (by rw [toList_madeCells_one]; rfl)
    rw [e]
    exact Row.new w 3 (ints (threes 0))
  have hb0 : Below w.heap.size w (w.alloc (.cells (madeCells #[.int .i64 0] 3) 3)) := (Below.refl _ w).alloc (Nat.le_refl _) _
  have HR0 := Lib.hid hr0
  have HB0 := Lib.hid hb0
  have HH := Lib.hid (And.intro h hT)
  clear h hT hr0 hb0
  go_enter Tryd.func12, Tryd.ntmps12
  go_wp2_with fail
  refine HG.out.mono ?_
  rintro e w1 ⟨rfl, rfl⟩
  go_wp2_with fail
  refine HM.out.mono ?_
  rintro e w1 ⟨rfl, rfl⟩
  go_wp2_with fail
  go_loopw [21] (fun i wr => ∃ k : Nat, k ≤ 3 ∧ i = .int .i64 (k : Int) ∧ Row wr w.heap.size 3 (ints (threes k)) ∧ Below w.heap.size w wr) (fun i _ => 3 - (intOf i).toNat)
  case atStart => exact ⟨0, by omega, rfl, HR0.out, HB0.out⟩
  case round =>
    obtain ⟨k, hk, rfl, hr, hb⟩ := hrel
    by_cases hlt : k < 3
    · have hltz : (k : Int) < 3 := by omega
      have HT1 := HH.out.2.on hb
      have HSP := Lib.hid (spot_any ⟨#[115, 104, 97, 114, 100]⟩ (k : Int) 3 wr ⟨by omega, by omega⟩ ⟨by omega, by omega⟩ (by decide) HT1.tab HT1.tabs)
      have HL := Lib.hid (And.intro hr hb)
      clear hr hb HT1
      go_wp2_with fail
      refine HSP.out.mono ?_
      rintro e w4 ⟨rfl, hb4⟩
      have hb5 := below_then HL.out.2 hb4
      have HOM := Lib.hid (home_any (HH.out.1.on hb5) hZ _ (sp_any ⟨#[115, 104, 97, 114, 100]⟩ (k : Int) 3))
      have HB4 := Lib.hid (And.intro hb4 hb5)
      clear hb4 hb5 HSP
      generalize ((crcS (spotS ⟨#[115, 104, 97, 114, 100]⟩ (k : Int) 3)).toNat : Int) = S at *
      go_wp2_with fail
      refine HOM.out.mono ?_
      rintro e w5 ⟨m, er, rfl, _, hM, hb6⟩
      obtain ⟨rfl, q, hq, _, _⟩ := hM hne
      obtain rfl : m = 3 := h3 _ hq
      have hb7 := HB4.out.1.trans (hb6.mono HB4.out.1.size)
      have hr7 := HL.out.1.keep (hb7.block _ HL.out.1.lt)
      have z7 := hr7.frozen k
      have l7 := hr7.lt
      obtain ⟨c0, hc0⟩ : ∃ c0, wr.cell? ⟨w.heap.size, k, none⟩ = some c0 := ⟨_, HL.out.1.cell (List.getElem?_eq_getElem (by rw [ints_len, threes_len k (by omega)]; exact hlt))⟩
      have hr8 := hr7.set k (.int .i64 3)
      rw [threes_set k hlt] at hr8
      have cc7 : w5.cell? ⟨w.heap.size, k, none⟩ = some c0 := by rw [hb7.cell (show (⟨w.heap.size, k, none⟩ : Addr).block < _ from HL.out.1.lt)]; exact hc0
      have H8 := Lib.hid (And.intro hr8 (below_setCell (HB4.out.2.trans (hb6.mono (Nat.le_trans (HL.out.2.size) HB4.out.1.size))) (p := ⟨w.heap.size, k, none⟩) (Nat.le_refl _) (.int .i64 3)))
      clear hb6 hb7 hr7 hr8 hM hq
      go_wp2_with fail
      exact ⟨⟨k + 1, hlt, by go_num, H8.out.1, H8.out.2⟩, by simp [intOf]; omega⟩
    · obtain rfl : k = 3 := by omega
      have HL := Lib.hid (And.intro hr hb)
      clear hr hb
      go_wp2_with fail
      go_ret2
      refine ⟨_, rfl, ⟨rfl, fun _ => ⟨_, rfl, HL.out.1.lt, fun j u hu => ?_⟩⟩, HL.out.2⟩
      rw [add_flat, Nat.zero_add]
      exact HL.out.1.cell hu
theorem good3 : GoodN [3] := ⟨by simp, fun x hx => by simp at hx; omega⟩
theorem zof3 : zof [3] 2 ≠ [] := fun h => by
  have := zof_len [3] 2
  rw [h] at this
  simp at this
theorem zof3_all : ∀ x ∈ zof [3] 2, x.1 = 3 := fun x hx => by simpa using (mem_zof.1 hx).1
theorem eql_some_nil (p : Nat) (w : World) : (binOp .eql 24 (.pointer (some ⟨p, 0, none⟩)) (.pointer none)).run Tryd.prog w = .ok (.bool false) w := by kernel_rfl
set_option maxHeartbeats 2000000 in
theorem awake_any {w : World} (hT : Four w) : Calls Tryd.prog 9 #[] w (Gives (.bool true) w) := by
  have hb0 : Below w.heap.size w (w.alloc (.cells #[.int .i64 3] 3)) := (Below.refl _ w).alloc (Nat.le_refl _) _
  have hnew : Calls Tryd.prog 7 #[.slice (some ⟨w.heap.size, 0, none⟩) 1 1, .int .i64 2] (w.alloc (.cells #[.int .i64 3] 3)) _ := new_any (w := w.alloc (.cells #[.int .i64 3] 3)) (c := 1) (l := [3]) ((news_int w [3] (by simp)).more (by simp)) good3 (by simp) 2 (by omega) (by omega) (hT.on hb0)
  have HN := Lib.hid hnew
  have HT := Lib.hid hT
  clear hnew hT
  go_enter Tryd.func9, Tryd.ntmps9
  go_wp2_with fail
  refine HN.out.mono ?_
  rintro e w1 ⟨p, rfl, hR1, hb1⟩
  have hb01 := hb0.trans (hb1.mono hb0.size)
  have he := eql_some_nil p w1
  have HS := Lib.hid (shards3 hR1 (by rw [zof_len]; simp) zof3 zof3_all (HT.out.on hb01))
  have HR1 := Lib.hid hR1
  have HB01 := Lib.hid hb01
  clear hb0 hb1 hR1 hb01
  go_wp2_with fail
  refine HS.out.mono ?_
  rintro e w2 ⟨ad, rfl, hR2, hb2⟩
  have HH := Lib.hid (home_no (g := true) (fun w' hb' => ((HR1.out.on hb2).on hb').row) 16777216 (.inr (.inr (by omega))))
  have HR2 := Lib.hid (And.intro hR2 (HB01.out.trans (hb2.mono HB01.out.size)))
  clear hR2 hb2 HS
  go_wp2_with fail
  refine HH.out.mono ?_
  rintro e w3 ⟨rfl, hb3⟩
  have hR3 := (HR2.out.1.below hb3).more hb3.size
  have hR4 := hR3.alloc (Nat.le_refl _) (.cells #[.int .i64 3, .int .i64 3, .int .i64 3] 3)
  have HSI : Hid (Calls Tryd.prog 22 #[.slice (some ad) 3 3, .slice (some ⟨w3.heap.size, 0, none⟩) 3 3] (w3.alloc (.cells #[.int .i64 3, .int .i64 3, .int .i64 3] 3)) (Says (.bool true) (w3.alloc (.cells #[.int .i64 3, .int .i64 3, .int .i64 3] 3)))) :=
    Lib.hid (sameInts_any (some ad) (some ⟨w3.heap.size, 0, none⟩) 3 3 3 3 _ _ [3, 3, 3] [3, 3, 3] _ hR4 (news_int w3 [3, 3, 3] (by simp)) (by unfold maxLen; omega) (by unfold maxLen; omega))
  have HB3 := Lib.hid (HR2.out.2.trans (hb3.mono HR2.out.2.size))
  clear hR3 hR4 hb3
  go_wp2_with fail
  refine HSI.out.mono ?_
  rintro e w4 ⟨rfl, q, rfl⟩
  go_wp2_with fail
  go_ret
  exact ⟨rfl, below_drewN (HB3.out.alloc HB3.out.size _) q⟩
end Go.Proofs.YtjdehojbkogpkaaDoor
