/- What New of package ring refuses, and what Shards returns of any ring. Conditions: the nodes read as a list; the tables lie as start-up lays them. -/
import Derived.Test.YtmepahlmbopacaaDoorGHome
import Derived.Test.YtmepahlmbopacaaDoorGSame
import Derived.Test.YtmepahlmbopacaaDoorChNext
import Derived.Deep.OwnRows
set_option linter.unusedVariables false
set_option linter.unusedSimpArgs false
set_option maxRecDepth 100000
namespace Go.Proofs.YtmepahlmbopacaaDoor.Ct
open Go Go.RowKit Go.Maps
theorem small_len : ∀ (n : Nat) (l : List Int), l.Nodup → (∀ x ∈ l, 0 ≤ x ∧ x < (n : Int)) → l.length ≤ n
  | 0, l, _, h => by
    rcases l with _ | ⟨x, r⟩
    · simp
    · have := h x (by simp)
      omega
  | n + 1, l, hn, h => by
    have h1 := small_len n (l.filter (fun x => decide (x ≠ (n : Int)))) (hn.filter _) (fun x hx => by
      rw [List.mem_filter] at hx
      have h2 := h x hx.1
      have h3 : x ≠ (n : Int) := by simpa using hx.2
      omega)
    have h2 : l.length = l.countP (fun x => decide (x ≠ (n : Int))) + l.countP (fun x => ! decide (x ≠ (n : Int))) := by
      have := List.length_eq_countP_add_countP (fun x => decide (x ≠ (n : Int))) (l := l)
      rw [this]
      congr 2
      funext x
      simp
    have h3 : l.countP (fun x => ! decide (x ≠ (n : Int))) ≤ 1 := by
      have h4 := List.nodup_iff_count.1 hn (n : Int)
      have e : l.countP (fun x => ! decide (x ≠ (n : Int))) = l.count (n : Int) := by
        unfold List.count
        congr 1
        funext x
        by_cases hx : x = (n : Int) <;> simp [hx]
      omega
    rw [← List.countP_eq_length_filter] at h1
    omega
theorem good_len {l : List Int} (h : GoodN l) : l.length ≤ 8 := small_len 8 l h.1 h.2
def goodB (l : List Int) : Bool := decide l.Nodup && l.all nodeC
theorem goodB_iff {l : List Int} : goodB l = true ↔ GoodN l := by
  unfold goodB GoodN
  rw [Bool.and_eq_true, List.all_eq_true]
  simp [nodeC_iff]
theorem take_ext {l : List Int} {k : Nat} (hk : k < l.length) : l.take (k + 1) = l.take k ++ [l.getD k 0] := by
  rw [List.take_succ_eq_append_getElem hk, List.getD_eq_getElem?_getD, List.getElem?_eq_getElem hk]
  rfl
theorem good_more {l : List Int} {k z : Nat} (hk : k < l.length) (h : GoodN (l.take k)) (hz : l.getD k 0 = (z : Int)) (h8 : z < 8) (hno : (z : Int) ∉ l.take k) : GoodN (l.take (k + 1)) := by
  rw [take_ext hk, hz]
  refine ⟨?_, fun x hx => ?_⟩
  · rw [List.nodup_append]
    exact ⟨h.1, by simp, fun a ha b hb => by simp at hb; subst hb; rintro rfl; exact hno ha⟩
  · rcases List.mem_append.1 hx with hx | hx
    · exact h.2 x hx
    · simp at hx
      omega
theorem not_good {l : List Int} {k : Nat} (hk : k < l.length) (h : l.getD k 0 < 0 ∨ 8 ≤ l.getD k 0 ∨ l.getD k 0 ∈ l.take k) : goodB l = false := by
  cases hg : goodB l with
  | false => rfl
  | true =>
    exfalso
    obtain ⟨z, hz, h8, hno, _⟩ := good_cut (goodB_iff.1 hg) hk
    rw [hz] at h
    rcases h with h | h | h
    · omega
    · omega
    · exact hno h
set_option maxHeartbeats 2000000 in
theorem areNodes_all {w : World} {B : Nat} {A : Option Addr} {n c : Nat} {l : List Int} (hR : Reads w B 1 A n (ints l)) (hB : B ≤ w.heap.size) (hn : n ≤ maxLen) :
    Calls Tryd.prog 35 #[.slice A n c] w (Gives (.bool (goodB l)) w) := by
  have hln := hR.len
  unfold maxLen at hn
  have r0 := Row.new w 90 (metL [])
  have hB0 : Below w.heap.size w (w.alloc (.cells (metL []).toArray 90)) := (Below.refl _ w).alloc (Nat.le_refl _) _
  have HR := Lib.hid (hR.more hB)
  have HB0 := Lib.hid hB0
  have R0 := Lib.hid r0
  have HM := Lib.hid hln
  have hg0 : GoodN (l.take 0) := ⟨by simp, by simp⟩
  have HG0 := Lib.hid hg0
  clear hR hB0 r0 hln hB hg0
  go_enter Tryd.func35, Tryd.ntmps35
  go_wp2_with fail
  go_loopw [8] (fun i wr => ∃ k : Nat, k ≤ n ∧ i = .int .i64 (k : Int) ∧ Row wr w.heap.size 90 (metL (l.take k)) ∧ Below w.heap.size w wr ∧ GoodN (l.take k)) (fun i _ => n - (intOf i).toNat)
  case atStart => exact ⟨0, Nat.zero_le _, rfl, R0.out, HB0.out, HG0.out⟩
  case round =>
    obtain ⟨k, hk, rfl, hr, hb, hg⟩ := hrel
    by_cases hlt : k < n
    · have hltz : (k : Int) < (n : Int) := by omega
      obtain ⟨ad, rfl, hab, hc⟩ := (HR.out.below hb).int_at hlt
      have hkl : k < l.length := by rw [← HM.out]; exact hlt
      have hadl : (ad.add k).block < wr.heap.size := by rw [block_of_add]; have := hb.size; omega
      have HNG := Lib.hid (not_good hkl)
      have HGM := Lib.hid (fun z => @good_more l k z hkl hg)
      have htk := take_ext hkl
      have HB := Lib.hid hb
      clear hg
      generalize hx : l.getD k 0 = x at *
      clear hx
      by_cases x0 : x < 0
      · rw [HNG.out (.inl x0)]
        clear HNG HGM htk hb hr
        go_wp2_with fail
        go_ret
        exact ⟨rfl, HB.out⟩
      · by_cases x8 : 8 ≤ x
        · rw [HNG.out (.inr (.inl x8))]
          clear HNG HGM htk hb hr
          go_wp2_with fail
          go_ret
          exact ⟨rfl, HB.out⟩
        · obtain ⟨z, rfl⟩ : ∃ z : Nat, x = (z : Int) := ⟨x.toNat, by omega⟩
          have hz8 : z < 8 := by omega
          have hcm := hr.cell (j := z) (metL_get _ hz8)
          have hzm := hr.frozen z
          have hlm := hr.lt
          have hz8z : (z : Int) < 8 := by omega
          have hz8n : ¬ (8 : Int) ≤ (z : Int) := by omega
          by_cases hin : (z : Int) ∈ l.take k
          · rw [HNG.out (.inr (.inr hin))]
            rw [decide_eq_true hin] at hcm
            clear HNG HGM htk hb hr hin
            go_wp2_with fail
            go_ret
            exact ⟨rfl, HB.out⟩
          · rw [decide_eq_false hin] at hcm
            have hr1 := hr.set z (.bool true)
            rw [metL_set _ _ hz8, ← htk] at hr1
            have HH := Lib.hid (And.intro hr1 (HGM.out z rfl hz8 hin))
            clear hr hr1 HNG HGM htk hb hin
            go_wp2
            exact ⟨⟨k + 1, hlt, by go_num, HH.out.1, below_setCell HB.out (Nat.le_refl _) _, HH.out.2⟩, by simp [intOf]; omega⟩
    · obtain rfl : k = n := by omega
      have hnl : ¬ (k : Int) < (k : Int) := by omega
      rw [List.take_of_length_le (by rw [HM.out]; exact Nat.le_refl _)] at hg
      have hgb : goodB l = true := goodB_iff.2 hg
      have HGB := Lib.hid hgb
      clear hg hgb
      go_wp2_with fail
      go_ret
      exact ⟨ret_bool HGB.out.symm, hb⟩
def newB (l : List Int) (P : Int) : Bool := goodB l && decide (1 ≤ P ∧ P ≤ 64)
theorem new_no {w : World} {B : Nat} {A : Option Addr} {n c : Nat} {l : List Int} (hR : Reads w B 1 A n (ints l)) (hB : B ≤ w.heap.size) (hn : n ≤ maxLen) {P : Int} (h : newB l P = false) :
    Calls Tryd.prog 19 #[.slice A n c, .int .i64 P] w (Gives (.tuple #[.pointer none, .int .i64 1]) w) := by
  have HA := Lib.hid (areNodes_all (c := c) hR hB hn)
  clear hR hB hn
  unfold newB at h
  generalize goodB l = b at *
  cases b with
  | false =>
    clear h
    go_enter Tryd.func19, Tryd.ntmps19
    go_wp2_with fail
    refine HA.out.mono ?_
    rintro e w1 ⟨rfl, hb1⟩
    go_wp2_with fail
    go_ret2
    exact ⟨rfl, hb1⟩
  | true =>
    have h : P < 1 ∨ 64 < P := by simp at h; omega
    by_cases h1 : P < 1
    · clear h
      go_enter Tryd.func19, Tryd.ntmps19
      go_wp2_with fail
      refine HA.out.mono ?_
      rintro e w1 ⟨rfl, hb1⟩
      go_wp2_with fail
      go_ret2
      exact ⟨rfl, hb1⟩
    · have h2 : 64 < P := by omega
      clear h
      go_enter Tryd.func19, Tryd.ntmps19
      go_wp2_with fail
      refine HA.out.mono ?_
      rintro e w1 ⟨rfl, hb1⟩
      go_wp2_with fail
      go_ret2
      exact ⟨rfl, hb1⟩
def mayS (n : Int) : Bool := decide (1 ≤ n ∧ n ≤ 16)
theorem mayBe_any (n : Int) (w : World) : Calls Tryd.prog 40 #[.int .i64 n] w fun e w' => e = .returned (.bool (mayS n)) ∧ w = w' := by
  go_enter Tryd.func40, Tryd.ntmps40
  go_wp2
  all_goals go_ret
  all_goals exact ⟨ret_bool (by unfold mayS; rw [Bool.eq_iff_iff]; simp; try omega), rfl⟩
def shB : ByteArray := ⟨#[115, 104, 97, 114, 100]⟩
/-- Where a shard stands. -/
def shS (k : Nat) (n : Int) : Int := ((crcS (spotS shB (k : Int) n)).toNat : Int)
theorem shS_in (k : Nat) (n : Int) : InR (shS k n) := by
  have := (crcS (spotS shB (k : Int) n)).isLt
  unfold InR shS
  omega
/-- The nodes that so many shards have. -/
def Homes (Z : List (Int × Int)) (n : Int) (H : List Int) : Prop := ∀ k, k < H.length → IsHome Z (shS k n) (H.getD k 0)
theorem Homes.snoc {Z : List (Int × Int)} {n m : Int} {H : List Int} (h : Homes Z n H) (hm : IsHome Z (shS H.length n) m) : Homes Z n (H ++ [m]) := fun k hk => by
  rw [List.length_append] at hk
  simp only [List.length_cons, List.length_nil] at hk
  rw [List.getD_eq_getElem?_getD]
  by_cases h1 : k < H.length
  · rw [List.getElem?_append_left h1, ← List.getD_eq_getElem?_getD]
    exact h k h1
  · obtain rfl : k = H.length := by omega
    rw [List.getElem?_append_right (Nat.le_refl _), Nat.sub_self]
    exact hm
theorem Homes.uniq {Z : List (Int × Int)} {n : Int} {H K : List Int} (hZ : ∀ x ∈ Z, InR x.2) (h : Homes Z n H) (k : Homes Z n K) (hl : H.length = K.length) : H = K :=
  getD_ext hl fun j hj => (h j hj).uniq hZ (k j (by omega))
def ShPost (Z : List (Int × Int)) (n : Nat) (w : World) (e : Ending) (w' : World) : Prop :=
  (Z = [] ∧ e = .returned (.tuple #[.slice none 0 0, .int .i64 3]) ∨ Z ≠ [] ∧ ∃ H, H.length = n ∧ Homes Z (n : Int) H ∧ e = .returned (.tuple #[.slice (some ⟨w.heap.size, 0, none⟩) n n, .int .i64 0]) ∧ Reads w' w'.heap.size 1 (some ⟨w.heap.size, 0, none⟩) n (ints H)) ∧ Below w.heap.size w w'
theorem IsRing.row {w : World} {p : Nat} {Z : List (Int × Int)} (h : IsRing w p Z) : GivenIs (.pointer (some ⟨p, 0, none⟩)) true w := by
  obtain ⟨nv, A, c, bm, PS, PL, f, h⟩ := h
  exact given_any h.row
theorem shards_no {w : World} {p : Nat} {Z : List (Int × Int)} (h : IsRing w p Z) (n : Int) (hs : mayS n = false) :
    Calls Tryd.prog 20 #[.pointer (some ⟨p, 0, none⟩), .int .i64 n] w fun e w' => e = .returned (.tuple #[.slice none 0 0, .int .i64 1]) ∧ w = w' := by
  have HG := Lib.hid (IsRing.row h)
  unfold GivenIs at HG
  have HM := Lib.hid (mayBe_any n w)
  rw [hs] at HM
  clear h hs
  go_enter Tryd.func20, Tryd.ntmps20
  go_wp2_with fail
  refine HG.out.mono ?_
  rintro e w1 ⟨rfl, rfl⟩
  go_wp2_with fail
  refine HM.out.mono ?_
  rintro e w1 ⟨rfl, rfl⟩
  go_wp2_with fail
  go_ret2
  exact ⟨rfl, rfl⟩
theorem fill_set (H : List Int) (m : Int) {n : Nat} (h : H.length < n) : (ints (H ++ List.replicate (n - H.length) 0)).set H.length (.int .i64 m) = ints ((H ++ [m]) ++ List.replicate (n - (H.length + 1)) 0) := by
  unfold ints
  rw [← List.map_set, List.set_append_right _ _ (Nat.le_refl _), Nat.sub_self]
  obtain ⟨d, hd⟩ : ∃ d, n - H.length = d + 1 := ⟨n - H.length - 1, by omega⟩
  rw [hd, show n - (H.length + 1) = d by omega, List.replicate_succ]
  simp
set_option maxHeartbeats 4000000 in
theorem shards_any {w : World} {p : Nat} {Z : List (Int × Int)} (h : IsRing w p Z) (hZ : Z.length ≤ 100000) (n : Nat) (hn1 : 1 ≤ n) (hn : n ≤ 16) (hT : Four w) :
    Calls Tryd.prog 20 #[.pointer (some ⟨p, 0, none⟩), .int .i64 (n : Int)] w (ShPost Z n w) := by
  have hmk : ∀ w : World, (Instr.makeSlice 22 (.int .i64 (n : Int)) (.int .i64 (n : Int))).run Tryd.prog w = .ok (.slice (some ⟨w.heap.size, 0, none⟩) n n) (w.alloc (.cells (madeCells #[.int .i64 0] n) 3)) := run_make_row' (P := Tryd.prog) 22 3 (.int .i64 0) 8 Tryd.underlying22 int_row rfl .i64 .i64 n (by omega) (by omega)
  have HG := Lib.hid (IsRing.row h)
  unfold GivenIs at HG
  have HM := Lib.hid (mayBe_any (n : Int) w)
  have hm : mayS (n : Int) = true := by unfold mayS; simp; omega
  rw [hm] at HM
  obtain ⟨W, hW⟩ : ∃ W, W = w.alloc (.cells (madeCells #[.int .i64 0] n) 3) := ⟨_, rfl⟩
  have hr0 : Row W w.heap.size 3 (ints ([] ++ List.replicate (n - 0) 0)) := by
    have e : madeCells #[.int .i64 0] n = (ints ([] ++ List.replicate (n - 0) 0)).toArray := Array.toList_inj.1 (by rw [toList_madeCells_one]; simp [ints])
    rw [hW, e]
    exact Row.new w 3 _
  have hb0 : Below w.heap.size w W := by rw [hW]; exact (Below.refl _ w).alloc (Nat.le_refl _) _
  have HR0 := Lib.hid hr0
  have HB0 := Lib.hid hb0
  have HW := Lib.hid hW
  have HH := Lib.hid (And.intro h hT)
  clear h hT hr0 hb0 hm hW
  go_enter Tryd.func20, Tryd.ntmps20
  go_wp2_with fail
  refine HG.out.mono ?_
  rintro e w1 ⟨rfl, rfl⟩
  go_wp2_with fail
  refine HM.out.mono ?_
  rintro e w1 ⟨rfl, rfl⟩
  go_wp2_with fail
  rw [← HW.out]
  go_loopw [21] (fun i wr => ∃ (k : Nat) (H : List Int), k ≤ n ∧ i = .int .i64 (k : Int) ∧ Hid (H.length = k) ∧ (H = [] ∨ Z ≠ []) ∧ Homes Z (n : Int) H ∧ Row wr w.heap.size 3 (ints (H ++ List.replicate (n - H.length) 0)) ∧ Below w.heap.size w wr) (fun i _ => n - (intOf i).toNat)
  case atStart => exact ⟨0, [], by omega, rfl, Lib.hid rfl, .inl rfl, fun k hk => by simp at hk, HR0.out, HB0.out⟩
  case round =>
    obtain ⟨k, H, hk, rfl, HK, hne, hH, hr, hb⟩ := hrel
    by_cases hlt : k < n
    · have hltz : (k : Int) < (n : Int) := by omega
      have HT1 := HH.out.2.on hb
      have HSP : Hid (Calls Tryd.prog 37 #[.string ⟨#[115, 104, 97, 114, 100]⟩, .int .i64 (k : Int), .int .i64 (n : Int)] wr (Gives (.int .i64 (shS k (n : Int))) wr)) := Lib.hid (spot_any shB (k : Int) (n : Int) wr ⟨by omega, by omega⟩ ⟨by omega, by omega⟩ (by decide) HT1.tab HT1.tabs)
      have hsi := shS_in k (n : Int)
      have HL := Lib.hid (And.intro hr (And.intro hb hH))
      have hkH : k = H.length := HK.out.symm
      have HKK := Lib.hid hkH
      clear hr hb HT1 hH hkH hne
      go_wp2_with fail
      refine HSP.out.mono ?_
      rintro e w4 ⟨rfl, hb4⟩
      have hb5 := below_then HL.out.2.1 hb4
      have HOM := Lib.hid (home_any (HH.out.1.on hb5) hZ _ hsi)
      have HB4 := Lib.hid (And.intro hb4 hb5)
      clear hb4 hb5 HSP hsi
      go_wp2_with fail
      refine HOM.out.mono ?_
      rintro e w5 ⟨m, er, rfl, hM0, hM, hb6⟩
      have hb7 := HB4.out.1.trans (hb6.mono HB4.out.1.size)
      have hb8 := below_then HB4.out.2 hb6
      by_cases hZ0 : Z = []
      · obtain ⟨rfl, rfl⟩ := hM0 hZ0
        have HX := Lib.hid (And.intro hZ0 hb8)
        clear hM hM0 hb6 hb7 hb8 hZ0
        go_wp2_with fail
        go_ret2
        exact ⟨.inl ⟨HX.out.1, rfl⟩, HX.out.2⟩
      · obtain ⟨rfl, hIs⟩ := hM hZ0
        have hr7 := HL.out.1.keep (hb7.block _ HL.out.1.lt)
        have z7 := hr7.frozen k
        have l7 := hr7.lt
        obtain ⟨c0, hc0⟩ : ∃ c0, w5.cell? ⟨w.heap.size, k, none⟩ = some c0 := ⟨_, hr7.cell (List.getElem?_eq_getElem (by rw [ints_len, List.length_append, List.length_replicate, HK.out]; omega))⟩
        have hr8 := hr7.set k (.int .i64 m)
        rw [show (ints (H ++ List.replicate (n - H.length) 0)).set k (.int .i64 m) = (ints (H ++ List.replicate (n - H.length) 0)).set H.length (.int .i64 m) by rw [HK.out], fill_set H m (by rw [HK.out]; exact hlt)] at hr8
        have hs8 := HL.out.2.2.snoc (m := m) (by rw [HK.out]; exact hIs)
        have hb9 := below_setCell hb8 (p := ⟨w.heap.size, k, none⟩) (Nat.le_refl _) (.int .i64 m)
        have H8 := Lib.hid (And.intro hr8 (And.intro hb9 (And.intro hs8 (And.intro hZ0 (show (H ++ [m]).length = k + 1 by rw [List.length_append, HK.out]; rfl)))))
        clear hb6 hb7 hb8 hr7 hr8 hM hM0 hIs hs8 hb9 hZ0
        go_wp2_with fail
        exact ⟨⟨k + 1, H ++ [m], hlt, by go_num, Lib.hid H8.out.2.2.2.2, .inr H8.out.2.2.2.1, H8.out.2.2.1, by have := H8.out.1; rwa [← show (H ++ [m]).length = H.length + 1 by simp] at this, H8.out.2.1⟩, by simp [intOf]; omega⟩
    · obtain rfl : k = n := by omega
      have hnl : ¬ (k : Int) < (k : Int) := by omega
      have hZ0 : Z ≠ [] := by
        rcases hne with rfl | h
        · have := HK.out
          simp at this
          omega
        · exact h
      have e0 : H ++ List.replicate (k - H.length) 0 = H := by rw [HK.out, Nat.sub_self]; simp
      rw [e0] at hr
      have HL := Lib.hid (And.intro hr (And.intro hb (And.intro hH hZ0)))
      clear hr hb hH hZ0 hne e0
      go_wp2_with fail
      go_ret2
      refine ⟨.inr ⟨HL.out.2.2.2, H, HK.out, HL.out.2.2.1, rfl, ?_⟩, HL.out.2.1⟩
      refine ⟨by rw [ints_len, HK.out]; omega, fun _ => ⟨_, rfl, HL.out.1.lt, fun j u hu => ?_⟩⟩
      rw [add_flat, Nat.zero_add]
      exact HL.out.1.cell hu
end Go.Proofs.YtmepahlmbopacaaDoor.Ct
