/- What the document's Parse returns: the vector of a text, or that it is none. Conditions: Go's variables that it reads lie as start-up lays them. -/
import Derived.Test.YtahgamjfglcenaaDoorPar
set_option linter.unusedVariables false
set_option linter.unusedSimpArgs false
namespace Go.Proofs.YtahgamjfglcenaaDoor
open Go Go.RowKit
/-- Of a vector's text so many numbers are read; what is left begins at fr, and up to k there is no comma in it. -/
def PInv (s : ByteArray) (out : List Int) (fr k : Nat) : Prop := ∀ v, okV v = true → s = prnB v → ∃ j, j < v.length ∧ out = v.take j ∧ s.data.toList.drop fr = prn (v.drop j) ∧ (44 : UInt8) ∉ (s.data.toList.drop fr).take (k - fr)
def PEnd (s : ByteArray) (out : List Int) : Prop := ∀ v, okV v = true → s = prnB v → out = v
theorem pInv_zero (s : ByteArray) : PInv s [] 0 0 := fun v hv e => ⟨0, List.length_pos_iff.2 (okV_ne hv), by simp, by rw [e, prnB_list]; simp, by simp⟩
theorem drop_at {l : List UInt8} {fr k : Nat} {b : UInt8} (hf : fr ≤ k) (h : l[k]? = some b) : (l.drop fr).take (k + 1 - fr) = (l.drop fr).take (k - fr) ++ [b] := by
  have h1 : (l.drop fr)[k - fr]? = some b := by
    rw [List.getElem?_drop, show fr + (k - fr) = k by omega]
    exact h
  rw [show k + 1 - fr = k - fr + 1 by omega, List.take_add_one, h1]
  rfl
theorem pInv_next {s : ByteArray} {out : List Int} {fr k : Nat} (h : PInv s out fr k) (hf : fr ≤ k) {b : UInt8} (hb : s.data.toList[k]? = some b) (hne : b ≠ 44) : PInv s out fr (k + 1) := by
  intro v hv e
  obtain ⟨j, h1, h2, h3, h4⟩ := h v hv e
  refine ⟨j, h1, h2, h3, ?_⟩
  rw [drop_at hf hb, List.mem_append]
  rintro (h5 | h5)
  · exact h4 h5
  · rw [List.mem_singleton] at h5
    exact hne h5.symm
theorem drop_cut {l : List UInt8} {fr k : Nat} {b : UInt8} (hf : fr ≤ k) (h : l[k]? = some b) : l.drop fr = (l.drop fr).take (k - fr) ++ b :: l.drop (k + 1) := by
  have hl := (List.getElem?_eq_some_iff.1 h).1
  have h2 : l.drop k = b :: l.drop (k + 1) := by
    rw [List.drop_eq_getElem_cons hl, (List.getElem?_eq_some_iff.1 h).2]
  conv => lhs; rw [← List.take_append_drop (k - fr) (l.drop fr)]
  rw [List.drop_drop, show fr + (k - fr) = k by omega, h2]
theorem cur_list {s : ByteArray} {fr k : Nat} (hf : fr ≤ k) (hk : k ≤ s.size) : (s.extract fr k).data.toList = (s.data.toList.drop fr).take (k - fr) := by
  simp
theorem drop_one {v : List Int} {j : Nat} (h : j < v.length) : v.drop j = v.getD j 0 :: v.drop (j + 1) := by
  rw [List.drop_eq_getElem_cons h, List.getD_eq_getElem?_getD, List.getElem?_eq_getElem h]
  rfl
/-- At a comma: what stands ahead of it is the next number. -/
theorem pInv_comma {s : ByteArray} {out : List Int} {fr k : Nat} (h : PInv s out fr k) (hf : fr ≤ k) (hk : k < s.size) (hb : s.data.toList[k]? = some 44) {m : Int} {ok : Bool}
    (hn : ∀ x, okI x → s.extract fr k = itS x → m = x ∧ ok = true) : (∀ v, okV v = true → s = prnB v → ok = true) ∧ PInv s (out ++ [m]) (k + 1) (k + 1) := by
  have key : ∀ v, okV v = true → s = prnB v → ok = true ∧ ∃ j, j < v.length ∧ out ++ [m] = v.take j ∧ s.data.toList.drop (k + 1) = prn (v.drop j) := by
    intro v hv e
    obtain ⟨j, h1, h2, h3, h4⟩ := h v hv e
    rw [drop_cut hf hb, drop_one h1] at h3
    rcases hr : v.drop (j + 1) with _ | ⟨b, r⟩
    · rw [hr, prn_one] at h3
      exact absurd (by rw [← h3]; simp) (itoa_no (v.getD j 0))
    · rw [hr, prn_cons] at h3
      obtain ⟨e1, e2⟩ := comma_one h4 (itoa_no _) h3
      have hx := okV_I hv _ (getD_mem h1)
      obtain ⟨rfl, hok⟩ := hn _ hx (by rw [bytes_of_list (cur_list hf (by omega)), e1]; rfl)
      have hj : j + 1 < v.length := by
        have := congrArg List.length hr
        simp at this
        omega
      exact ⟨hok, j + 1, hj, by rw [take_snoc v j h1, h2], by rw [e2, hr]⟩
  refine ⟨fun v hv e => (key v hv e).1, fun v hv e => ?_⟩
  obtain ⟨_, j, h1, h2, h3⟩ := key v hv e
  exact ⟨j, h1, h2, h3, by simp⟩
/-- At the end: what is left is the last number. -/
theorem pInv_end {s : ByteArray} {out : List Int} {fr : Nat} (h : PInv s out fr s.size) (hf : fr ≤ s.size) {m : Int} {ok : Bool}
    (hn : ∀ x, okI x → s.extract fr s.size = itS x → m = x ∧ ok = true) : (∀ v, okV v = true → s = prnB v → ok = true) ∧ PEnd s (out ++ [m]) := by
  have key : ∀ v, okV v = true → s = prnB v → ok = true ∧ out ++ [m] = v := by
    intro v hv e
    obtain ⟨j, h1, h2, h3, h4⟩ := h v hv e
    have hl : s.data.toList.length = s.size := by simp
    have hall : (s.data.toList.drop fr).take (s.size - fr) = s.data.toList.drop fr := List.take_of_length_le (by rw [List.length_drop]; omega)
    have hcur := cur_list hf (Nat.le_refl s.size)
    rw [hall] at h4 hcur
    rw [h3] at h4 hcur
    rw [drop_one h1] at h4 hcur
    rcases hr : v.drop (j + 1) with _ | ⟨b, r⟩
    · rw [hr, prn_one] at hcur
      have hx := okV_I hv _ (getD_mem h1)
      obtain ⟨rfl, hok⟩ := hn _ hx (by rw [bytes_of_list hcur]; rfl)
      have hj : v.length ≤ j + 1 := by
        have := congrArg List.length hr
        simp at this
        omega
      refine ⟨hok, ?_⟩
      rw [h2, ← take_snoc v j h1, List.take_of_length_le hj]
    · rw [hr, prn_cons] at h4
      exact absurd (by simp) h4
  exact ⟨fun v hv e => (key v hv e).1, fun v hv e => (key v hv e).2⟩
set_option maxHeartbeats 4000000 in
set_option maxRecDepth 100000 in
theorem rparse_any (s : ByteArray) (hmax : s.size ≤ 9223372036854775807) (w : World) (h : LibW w) : Calls Tryd.prog 7 #[.string s] w (VPost s w) := by
  by_cases hlong : 192 < s.size
  · have hz : (192 : Int) < (s.size : Int) := by omega
    have HNO := Lib.hid (show ∀ v, okV v = true → s ≠ prnB v from fun v hv e => by have := prnB_size hv; rw [← e] at this; omega)
    go_enter Tryd.func7, Tryd.ntmps7
    go_wp2_with fail
    go_ret2
    exact VPost.no HNO.out (Below.refl _ _)
  · have hz : ¬ (192 : Int) < (s.size : Int) := by omega
    have H := Lib.hid h
    clear h
    go_enter Tryd.func7, Tryd.ntmps7
    go_wp2_with fail
    go_loopw [4, 5, 6] (fun o f i wr => ∃ (k fr : Nat) (out : List Int), i = .int .i64 (k : Int) ∧ f = .int .i64 (fr : Int) ∧ fr ≤ k ∧ k ≤ s.size + 1 ∧ wr.ownsRow w.heap.size 3 1 o out.length (ints out) ∧ out.length ≤ k ∧ Hid (k ≤ s.size → PInv s out fr k) ∧ Hid (k = s.size + 1 → PEnd s out) ∧ Below w.heap.size w wr) (fun _ _ i _ => s.size + 1 - (intOf i).toNat)
    case atStart => exact ⟨0, 0, [], rfl, rfl, Nat.le_refl _, Nat.zero_le _, World.ownsRow_nil .., Nat.le_refl _, Lib.hid (fun _ => pInv_zero s), Lib.hid (fun h => by omega), Below.refl _ _⟩
    case round =>
      obtain ⟨k, fr, out, rfl, rfl, hfk, hk, hO, hol, HI, HE, hB⟩ := hrel
      have HW := Lib.hid (And.intro hO hB)
      clear hO hB
      by_cases hks : k < s.size
      · have hksz : (k : Int) < (s.size : Int) := by omega
        have hksz2 : (k : Int) ≤ (s.size : Int) := by omega
        have hget : s.data.toList[k]? = some (s[k]'hks) := by
          rw [List.getElem?_eq_getElem (by simpa using hks)]
          simp
          rfl
        have HG := Lib.hid hget
        have hbt : (s[k]'hks).toNat < 256 := UInt8.toNat_lt _
        clear hget
        by_cases hc : (s[k]'hks).toNat = 44
        · have hcz : ((s[k]'hks).toNat : Int) = 44 := by omega
          have h44 : (s[k]'hks) = 44 := UInt8.toNat_inj.1 hc
          go_wp2_with fail
          refine (number_any (s.extract fr k) (by rw [ByteArray.size_extract]; omega) wr).mono ?_
          rintro e w2 ⟨m, ok, rfl, HM, q, rfl⟩
          obtain ⟨h1, h2⟩ := pInv_comma (HI.out (by omega)) hfk hks (by rw [HG.out, h44]) HM.out
          cases ok with
          | false =>
            have HNO := Lib.hid (show ∀ v, okV v = true → s ≠ prnB v from fun v hv e => Bool.noConfusion (h1 v hv e))
            clear h1 h2
            go_wp2_with fail
            go_ret2
            exact VPost.no HNO.out (below_drewN HW.out.2 q)
          | true =>
            have H2 := Lib.hid h2
            have HO2 := Lib.hid (show (wr.drewN q).ownsRow w.heap.size 3 1 _ out.length (ints out) from HW.out.1)
            clear h1 h2
            go_wp2_with (at_builtin; refine append_int rfl (.tmp 40) (.tmp 42) rfl w.heap.size _ out.length (ints out) m rfl HO2.out (wr.drewN q).heap.size rfl rfl (by omega) (by have := HW.out.2.size; exact this) ?_; intro v' w3 hown hg)
            rw [ints_snoc] at hown
            have hb3 := (below_drewN HW.out.2 q).trans (below_own HO2.out hg HW.out.2.size)
            have hl3 : (out ++ [m]).length = out.length + 1 := by simp
            clear hg
            go_roundw
            case rel => exact ⟨k + 1, k + 1, out ++ [m], by go_num, by go_num, Nat.le_refl _, by omega, by rw [hl3]; exact hown, by omega, Lib.hid (fun _ => H2.out), Lib.hid (fun h => by omega), hb3⟩
            case measure => simp [intOf]; omega
        · have hcz : ¬ ((s[k]'hks).toNat : Int) = 44 := by omega
          have HNX := Lib.hid (pInv_next (HI.out (by omega)) hfk HG.out (fun e => hc (by rw [e]; rfl)))
          go_wp2_with fail
          go_roundw
          case rel => exact ⟨k + 1, fr, out, by go_num, rfl, by omega, by omega, HW.out.1, by omega, Lib.hid (fun _ => HNX.out), Lib.hid (fun h => by omega), HW.out.2⟩
          case measure => simp [intOf]; omega
      · by_cases hke : k = s.size
        · subst hke
          have hksz : ¬ (s.size : Int) < (s.size : Int) := by omega
          go_wp2_with fail
          refine (number_any (s.extract fr s.size) (by rw [ByteArray.size_extract]; omega) wr).mono ?_
          rintro e w2 ⟨m, ok, rfl, HM, q, rfl⟩
          obtain ⟨h1, h2⟩ := pInv_end (HI.out (Nat.le_refl _)) hfk HM.out
          cases ok with
          | false =>
            have HNO := Lib.hid (show ∀ v, okV v = true → s ≠ prnB v from fun v hv e => Bool.noConfusion (h1 v hv e))
            clear h1 h2
            go_wp2_with fail
            go_ret2
            exact VPost.no HNO.out (below_drewN HW.out.2 q)
          | true =>
            have H2 := Lib.hid h2
            have HO2 := Lib.hid (show (wr.drewN q).ownsRow w.heap.size 3 1 _ out.length (ints out) from HW.out.1)
            clear h1 h2
            go_wp2_with (at_builtin; refine append_int rfl (.tmp 40) (.tmp 42) rfl w.heap.size _ out.length (ints out) m rfl HO2.out (wr.drewN q).heap.size rfl rfl (by omega) (by have := HW.out.2.size; exact this) ?_; intro v' w3 hown hg)
            rw [ints_snoc] at hown
            have hb3 := (below_drewN HW.out.2 q).trans (below_own HO2.out hg HW.out.2.size)
            have hl3 : (out ++ [m]).length = out.length + 1 := by simp
            clear hg
            go_roundw
            case rel => exact ⟨s.size + 1, s.size + 1, out ++ [m], by go_num, by go_num, Nat.le_refl _, by omega, by rw [hl3]; exact hown, by omega, Lib.hid (fun h => by omega), Lib.hid (fun _ => H2.out), hb3⟩
            case measure => simp [intOf]
        · obtain rfl : k = s.size + 1 := by omega
          have hnz : ¬ ((s.size + 1 : Nat) : Int) ≤ (s.size : Int) := by omega
          obtain ⟨A, c, rfl, hc1, hc2⟩ := own_shape HW.out.1
          have hrd := Reads.of_own HW.out.1
          have hpr := rprint_any A out.length c out wr hrd (Nat.le_trans hc1 hc2) (H.out.next HW.out.2).tabs
          have hml : out.length ≤ maxLen := Nat.le_trans hc1 hc2
          have hfin : okV out = true → s = prnB out → ∀ w', Below wr.heap.size wr w' → VPost s w (.returned (.tuple #[.slice A out.length c, .int .i64 0])) w' := fun h1 h2 w' hb =>
            ⟨A, out.length, c, out, 0, rfl, .inl ⟨rfl, h1, h2⟩, (hrd.below hb).more hb.size, hml, below_then HW.out.2 hb⟩
          have HF := Lib.hid (And.intro hpr (And.intro (HE.out rfl) hfin))
          clear hpr hfin hrd hc1 hc2 hml
          unfold PPost prS prE at HF
          cases hok : okV out with
          | false =>
            rw [hok] at HF
            have HNO := Lib.hid (show ∀ v, okV v = true → s ≠ prnB v from fun v hv e => by
              have := HF.out.2.1 v hv e
              rw [this] at hok
              rw [hok] at hv
              exact Bool.noConfusion hv)
            clear hok
            go_wp2_with fail
            refine HF.out.1.mono ?_
            rintro e w2 ⟨rfl, hb2⟩
            have HB2 := Lib.hid (below_then HW.out.2 hb2)
            clear hb2
            go_wp2_with fail
            go_ret2
            exact VPost.no HNO.out HB2.out
          | true =>
            rw [hok] at HF
            clear hok
            by_cases hs : prnB out = s
            · rw [hs] at HF
              clear hs
              go_wp2_with fail
              refine HF.out.1.mono ?_
              rintro e w2 ⟨rfl, hb2⟩
              have HB2 := Lib.hid hb2
              clear hb2
              go_wp2_with fail
              go_ret2
              exact HF.out.2.2 (by trivial) (by trivial) _ HB2.out
            · have hne := bytes_ne hs
              have HNO := Lib.hid (show ∀ v, okV v = true → s ≠ prnB v from fun v hv e => by
                have := HF.out.2.1 v hv e
                rw [← this] at e
                exact hs e.symm)
              clear hs
              go_wp2_with fail
              refine HF.out.1.mono ?_
              rintro e w2 ⟨rfl, hb2⟩
              have HB2 := Lib.hid (below_then HW.out.2 hb2)
              clear hb2
              go_wp2_with fail
              go_ret2
              exact VPost.no HNO.out HB2.out
end Go.Proofs.YtahgamjfglcenaaDoor
