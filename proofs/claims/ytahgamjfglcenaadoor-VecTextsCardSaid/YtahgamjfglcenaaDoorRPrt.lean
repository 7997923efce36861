/- What the document's Print returns. Conditions: Go's table of powers of ten lies as start-up lays it. -/
import Derived.Test.YtahgamjfglcenaaDoorPrt
set_option linter.unusedVariables false
set_option linter.unusedSimpArgs false
namespace Go.Proofs.YtahgamjfglcenaaDoor
open Go Go.RowKit
theorem bytes_ext {a b : ByteArray} (h : a.data.toList = b.data.toList) : a = b := by
  rw [bytes_of_list h]
theorem take_ne (v : List Int) (k : Nat) (h1 : 1 ≤ k) (hk : k < v.length) : v.take k ≠ [] := by
  intro e
  have h0 : (v.take k).length = 0 := by rw [e]; rfl
  rw [List.length_take] at h0
  omega
theorem prnB_next (v : List Int) (k : Nat) (h1 : 1 ≤ k) (hk : k < v.length) : prnB (v.take k) ++ ⟨#[44]⟩ ++ itS (v.getD k 0) = prnB (v.take (k + 1)) := by
  apply bytes_ext
  rw [prnB_list, take_snoc v k hk, prn_snoc _ _ (take_ne v k h1 hk)]
  simp [prnB, itS]
theorem prnB_take_size (v : List Int) (k : Nat) (hI : ∀ x ∈ v, okI x) (hk : k ≤ 16) : (prnB (v.take k)).size ≤ 192 := by
  have := prn_len (v.take k) (fun x hx => hI x (List.mem_of_mem_take hx))
  have e : (prnB (v.take k)).size = (prn (v.take k)).length := by
    show (prn (v.take k)).toArray.size = _
    simp
  rw [List.length_take] at this
  omega
set_option maxHeartbeats 2000000 in
theorem rprint_any (A : Option Addr) (n c : Nat) (v : List Int) (w : World) (hx : Reads w w.heap.size 1 A n (ints v)) (hm : n ≤ maxLen) (hT : Tabs w w.heap.size) : Calls Tryd.prog 5 #[.slice A n c] w (PPost v w) := by
  have HCK := Lib.hid (is_any A n c w.heap.size v w hx hm)
  have HL := Lib.hid hx.len
  have HX := Lib.hid hx
  have HT := Lib.hid hT
  clear hx hT
  cases hok : okV v with
  | false =>
    rw [hok] at HCK
    have hp : PPost v w = fun e w' => e = .returned (.tuple #[.string ⟨#[]⟩, .int .i64 50]) ∧ Below w.heap.size w w' := by unfold PPost prS prE; rw [hok]; rfl
    rw [hp]
    clear hp hok
    go_enter Tryd.func5, Tryd.ntmps5
    go_wp2_with fail
    refine HCK.out.mono ?_
    rintro e w1 ⟨rfl, q, rfl⟩
    go_wp2_with fail
    go_ret2
    exact ⟨rfl, below_drewN (Below.refl _ _) q⟩
  | true =>
    rw [hok] at HCK
    have hp : PPost v w = fun e w' => e = .returned (.tuple #[.string (prnB v), .int .i64 0]) ∧ Below w.heap.size w w' := by unfold PPost prS prE; rw [hok]; rfl
    rw [hp]
    clear hp
    obtain ⟨h1, h16, hI⟩ := (okV_iff v).1 hok
    have hn16 : n ≤ 16 := by rw [HL.out]; exact h16
    have hn1 : 0 < n := by rw [HL.out]; exact h1
    have hn1z : (0 : Int) < (n : Int) := by omega
    obtain ⟨ad, hA, hbk, hcell⟩ := HX.out.int_at hn1
    subst hA
    have hadd : ad.add 0 = ad := rfl
    rw [hadd] at hcell
    have ha0 := fun W h => itoa_any (v.getD 0 0) (hI _ (getD_mem (by omega))) W h
    have he0 : itS (v.getD 0 0) = prnB (v.take 1) := by
      apply bytes_ext
      rw [prnB_list, itS_list]
      rcases v with _ | ⟨a, r⟩
      · simp at h1
      · show Lib.itoa a = prn [a]
        rw [prn_one]
    rw [he0] at ha0
    generalize v.getD 0 0 = x0 at *
    have HA := Lib.hid ha0
    have HI := Lib.hid (And.intro hok hI)
    have HV := Lib.hid (And.intro h1 h16)
    clear h1 h16 hI hok ha0 he0
    go_enter Tryd.func5, Tryd.ntmps5
    go_wp2_with fail
    refine HCK.out.mono ?_
    rintro e w1 ⟨rfl, q, rfl⟩
    go_wp2_with fail
    refine (HA.out _ (HT.out.next (below_drewN (Below.refl _ _) q))).mono ?_
    rintro e w2 ⟨rfl, hb2⟩
    have hb2' : Below w.heap.size w w2 := (below_drewN (Below.refl _ w) q).trans hb2
    have H0 := Lib.hid hb2'
    clear hb2 hb2' hcell hbk
    go_wp2_with fail
    go_loopw [4, 5] (fun s i wr => ∃ k : Nat, i = .int .i64 (k : Int) ∧ 1 ≤ k ∧ k ≤ n ∧ s = .string (prnB (v.take k)) ∧ Below w.heap.size w wr) (fun _ i _ => n - (intOf i).toNat)
    case atStart => exact ⟨1, rfl, Nat.le_refl _, hn1, rfl, H0.out⟩
    case round =>
      clear H0
      obtain ⟨k, rfl, hk1, hk, rfl, hb⟩ := hrel
      by_cases hlt : k < n
      · have hltz : (k : Int) < (n : Int) := by omega
        have hkv : k < v.length := by rw [← HL.out]; exact hlt
        obtain ⟨ad', hA, hbk, hcell⟩ := (HX.out.below hb).int_at hlt
        injection hA with hA
        subst hA
        have hlad : ad.block < wr.heap.size := Nat.lt_of_lt_of_le hbk hb.size
        have hia := itoa_any (v.getD k 0) (HI.out.2 _ (getD_mem hkv)) wr (HT.out.next hb)
        have hnx := prnB_next v k hk1 hkv
        have hsz := prnB_take_size v k HI.out.2 (by omega)
        have hs2 := itS_size (v.getD k 0) (HI.out.2 _ (getD_mem hkv))
        generalize v.getD k 0 = x at *
        generalize prnB (v.take k) = S at *
        have hs3 : (S ++ ⟨#[44]⟩ : ByteArray).size = S.size + 1 := by rw [ByteArray.size_append]; rfl
        have HR := Lib.hid (And.intro hb (And.intro hia hnx))
        have HS := Lib.hid hs3
        clear hb hia hnx hbk hkv hs3
        go_wp2_with fail
        refine HR.out.2.1.mono ?_
        rintro e w3 ⟨rfl, hb3⟩
        obtain ⟨S1, hS1⟩ : ∃ S1, S ++ ⟨#[44]⟩ = S1 := ⟨_, rfl⟩
        rw [hS1]
        have hs1 : S1.size = S.size + 1 := by rw [← hS1]; exact HS.out
        rw [hS1] at HR
        have hs1' : S1.size ≤ 193 := by omega
        have H3 := Lib.hid (below_then HR.out.1 hb3)
        clear hb3 hS1 HS hs1
        go_wp2_with fail
        go_roundw
        case rel => exact ⟨k + 1, by go_num, by omega, by omega, by rw [HR.out.2.2], H3.out⟩
        case measure => simp [intOf]; omega
      · obtain rfl : k = n := by omega
        have hfull : prnB (v.take k) = prnB v := by rw [HL.out, List.take_length]
        rw [hfull]
        have HB := Lib.hid hb
        clear hb hfull
        go_wp2_with fail
        go_ret2
        exact ⟨rfl, HB.out⟩
end Go.Proofs.YtahgamjfglcenaaDoor
