/- What the document's number of digits returns. Conditions: a text of up to 192 bytes. -/
import Derived.Test.YtahgamjfglcenaaDoorRPrt
import Derived.Laws.Closers25
set_option linter.unusedVariables false
set_option linter.unusedSimpArgs false
namespace Go.Proofs.YtahgamjfglcenaaDoor
open Go Go.RowKit
/-- If s is a number's text, n is what its first i bytes tell. -/
def NumI (s : ByteArray) (i : Nat) (n : Int) : Prop := ∀ x, okI x → s = itS x → Lib.decFrom 0 ((Lib.decDigits x.natAbs).take (i - sg x)) = some n.toNat
def NoNum (s : ByteArray) : Prop := ∀ x, okI x → s ≠ itS x
theorem num_byte {x : Int} {s : ByteArray} (h : s = itS x) {k : Nat} {b : UInt8} (hb : s.data.toList[k]? = some b) : (sg x = 1 ∧ k = 0 ∧ b = 45) ∨ (sg x ≤ k ∧ (Lib.decDigits x.natAbs)[k - sg x]? = some b) := by
  subst h
  rw [itS_list, itoa_eq] at hb
  by_cases hx : x < 0
  · rw [if_pos hx] at hb
    have hs : sg x = 1 := by unfold sg; rw [if_pos hx]
    rcases k with _ | k
    · simp at hb
      exact .inl ⟨hs, rfl, hb.symm⟩
    · refine .inr ⟨by omega, ?_⟩
      rw [hs]
      simpa using hb
  · rw [if_neg hx] at hb
    have hs : sg x = 0 := by unfold sg; rw [if_neg hx]
    refine .inr ⟨by omega, ?_⟩
    rw [hs]
    simpa using hb
theorem numI_zero (s : ByteArray) : NumI s 0 0 := by
  intro x _ _
  rw [Nat.zero_sub, List.take_zero]
  rfl
theorem dig_head (u : Nat) {b : UInt8} {k : Nat} (h : (Lib.decDigits u)[k]? = some b) : 48 ≤ b.toNat ∧ b.toNat ≤ 57 := dig_all u b (List.mem_of_getElem? h)
theorem numI_minus {s : ByteArray} {n : Int} (h : NumI s 0 n) {b : UInt8} (hb : s.data.toList[0]? = some b) (h45 : b.toNat = 45) : NumI s 1 n := by
  intro x hx e
  have hh := h x hx e
  rcases num_byte e hb with ⟨h1, _, _⟩ | ⟨h1, h2⟩
  · rw [h1] at hh ⊢
    exact hh
  · have := dig_head _ h2
    omega
theorem numI_step {s : ByteArray} {k : Nat} {n : Int} (h : NumI s k n) (hn : 0 ≤ n) {b : UInt8} (hb : s.data.toList[k]? = some b) (h1 : 48 ≤ b.toNat) (h2 : b.toNat ≤ 57) : NumI s (k + 1) (10 * n + ((b.toNat : Int) - 48)) := by
  intro x hx e
  rcases num_byte e hb with ⟨_, _, rfl⟩ | ⟨h3, h4⟩
  · simp at h1
  · have := Lib.decFrom_take _ (k - sg x) 0 n.toNat b (b.toNat - 48) (h x hx e) h4 (by unfold Lib.digitVal; rw [if_pos ⟨h1, h2⟩])
    rw [show k + 1 - sg x = k - sg x + 1 by omega, this]
    congr 1
    omega
theorem numI_bad {s : ByteArray} {k : Nat} {n : Int} (h : NumI s k n) (hn : 0 ≤ n) {b : UInt8} (hb : s.data.toList[k]? = some b) (h0 : ¬ (k = 0 ∧ b.toNat = 45)) (hbad : b.toNat < 48 ∨ 57 < b.toNat ∨ 1099511627776 < n) : NoNum s := by
  intro x hx e
  rcases num_byte e hb with ⟨_, h1, rfl⟩ | ⟨h3, h4⟩
  · exact h0 ⟨h1, rfl⟩
  · have hd := dig_head _ h4
    have hlt := Lib.decFrom_lt _ _ _ (h x hx e)
    have hl : ((Lib.decDigits x.natAbs).take (k - sg x)).length ≤ 10 := by
      rw [List.length_take]
      have := dig_len 9 x.natAbs (by unfold okI at hx; omega)
      omega
    have hp : (10 : Nat) ^ ((Lib.decDigits x.natAbs).take (k - sg x)).length ≤ 10 ^ 10 := Nat.pow_le_pow_right (by omega) hl
    omega
theorem itS_len (x : Int) : (itS x).size = sg x + (Lib.decDigits x.natAbs).length := by
  show (Lib.itoa x).toArray.size = _
  rw [itoa_eq]
  unfold sg
  split <;> simp <;> omega
theorem numI_end {s : ByteArray} {n : Int} (h : NumI s s.size n) (hn : 0 ≤ n) : ∀ x, okI x → s = itS x → n = (x.natAbs : Int) := by
  intro x hx e
  have hh := h x hx e
  have hl : s.size - sg x = (Lib.decDigits x.natAbs).length := by rw [e, itS_len]; omega
  rw [hl, List.take_length, dec_dig] at hh
  injection hh with hh
  omega
theorem sign_of {x : Int} {s : ByteArray} (h : s = itS x) {b : UInt8} (hb : s.data.toList[0]? = some b) : b.toNat = 45 ↔ x < 0 := by
  rcases num_byte h hb with ⟨h1, _, rfl⟩ | ⟨h1, h2⟩
  · unfold sg at h1
    constructor
    · intro _
      split at h1 <;> omega
    · intro _
      rfl
  · have hd := dig_head _ h2
    unfold sg at h1
    constructor
    · intro _
      omega
    · intro hx
      rw [if_pos hx] at h1
      omega
theorem empty_eq (s : ByteArray) : s.toList.isEmpty = decide (s.size = 0) := by
  rw [ByteArray.toList_eq]
  obtain ⟨⟨l⟩⟩ := s
  cases l with
  | nil => rfl
  | cons x xs =>
    refine (decide_eq_false fun h => ?_).symm
    simp [ByteArray.size] at h
/-- A number and whether it is one; of a number's text it is that number. -/
def NumPost (s : ByteArray) (w : World) (e : Ending) (w' : World) : Prop := ∃ (m : Int) (ok : Bool), e = .returned (.tuple #[.int .i64 m, .bool ok]) ∧ Hid (∀ x, okI x → s = itS x → m = x ∧ ok = true) ∧ ∃ q, w' = w.drewN q
theorem NumPost.no {s : ByteArray} {w : World} (h : NoNum s) (q : Nat) : NumPost s w (.returned (.tuple #[.int .i64 0, .bool false])) (w.drewN q) := ⟨0, false, rfl, Lib.hid (fun x hx e => absurd e (h x hx)), q, rfl⟩
theorem empty_no {s : ByteArray} (h : s.size = 0) : NoNum s := by
  intro x _ e
  have := itS_len x
  rw [← e, h] at this
  have := List.length_pos_iff.2 (dig_ne x.natAbs)
  omega
set_option maxHeartbeats 4000000 in
set_option maxRecDepth 100000 in
theorem number_any (s : ByteArray) (hs : s.size ≤ 192) (w : World) : Calls Tryd.prog 16 #[.string s] w (NumPost s w) := by
  go_enter Tryd.func16, Tryd.ntmps16
  go_wp2_with fail
  go_loopw [4, 5] (fun n i wr => ∃ (k : Nat) (m : Int) (q : Nat), i = .int .i64 (k : Int) ∧ n = .int .i64 m ∧ k ≤ s.size ∧ (0 ≤ m ∧ m ≤ 10995116277769) ∧ Hid (NumI s k m) ∧ wr = w.drewN q) (fun _ i _ => s.size - (intOf i).toNat)
  case atStart => exact ⟨0, 0, 0, rfl, rfl, Nat.zero_le _, by omega, Lib.hid (numI_zero s), rfl⟩
  case round =>
    obtain ⟨k, m, q, rfl, rfl, hk, ⟨hm0, hm1⟩, HN, rfl⟩ := hrel
    by_cases hlt : k < s.size
    · have hltz : (k : Int) < (s.size : Int) := by omega
      have hget : s.data.toList[k]? = some (s[k]'hlt) := by
        rw [List.getElem?_eq_getElem (by simpa using hlt)]
        simp
        rfl
      have hbt : (s[k]'hlt).toNat < 256 := UInt8.toNat_lt _
      have HG := Lib.hid hget
      clear hget
      by_cases h0 : k = 0
      · subst h0
        by_cases h45 : (s[0]'hlt).toNat = 45
        · have HNX := Lib.hid (numI_minus HN.out HG.out h45)
          have h45z : ((s[0]'hlt).toNat : Int) = 45 := by omega
          go_wp2_with fail
          go_roundw
          case rel => exact ⟨1, m, q, rfl, rfl, by omega, ⟨hm0, hm1⟩, HNX, rfl⟩
          case measure => simp [intOf]; omega
        · have h45z : ¬ ((s[0]'hlt).toNat : Int) = 45 := by omega
          have h0n : ¬ ((0 : Nat) = 0 ∧ (s[0]'hlt).toNat = 45) := fun h => h45 h.2
          by_cases hb1 : (s[0]'hlt).toNat < 48
          · have HNO := Lib.hid (numI_bad HN.out hm0 HG.out h0n (.inl hb1))
            have hb1z : ((s[0]'hlt).toNat : Int) < 48 := by omega
            go_wp2_with fail
            go_ret2
            exact NumPost.no HNO.out _
          · have hb1z : ¬ ((s[0]'hlt).toNat : Int) < 48 := by omega
            by_cases hb2 : 57 < (s[0]'hlt).toNat
            · have HNO := Lib.hid (numI_bad HN.out hm0 HG.out h0n (.inr (.inl hb2)))
              have hb2z : (57 : Int) < ((s[0]'hlt).toNat : Int) := by omega
              go_wp2_with fail
              go_ret2
              exact NumPost.no HNO.out _
            · have hb2z : ¬ (57 : Int) < ((s[0]'hlt).toNat : Int) := by omega
              by_cases hb3 : 1099511627776 < m
              · have HNO := Lib.hid (numI_bad HN.out hm0 HG.out h0n (.inr (.inr hb3)))
                go_wp2_with fail
                go_ret2
                exact NumPost.no HNO.out _
              · have HNX := Lib.hid (numI_step HN.out hm0 HG.out (by omega) (by omega))
                have hKN : 0 + 1 ≤ s.size := hlt
                clear h0n
                go_wp2_with fail
                go_roundw
                case rel => exact ⟨0 + 1, _, q, by go_num, rfl, hKN, by omega, Lib.hid HNX.out, rfl⟩
                case measure => simp [intOf]; omega
      · have h0z : ¬ (k : Int) = 0 := by omega
        have h0n : ¬ (k = 0 ∧ (s[k]'hlt).toNat = 45) := fun h => h0 h.1
        by_cases hb1 : (s[k]'hlt).toNat < 48
        · have HNO := Lib.hid (numI_bad HN.out hm0 HG.out h0n (.inl hb1))
          have hb1z : ((s[k]'hlt).toNat : Int) < 48 := by omega
          go_wp2_with fail
          go_ret2
          exact NumPost.no HNO.out _
        · have hb1z : ¬ ((s[k]'hlt).toNat : Int) < 48 := by omega
          by_cases hb2 : 57 < (s[k]'hlt).toNat
          · have HNO := Lib.hid (numI_bad HN.out hm0 HG.out h0n (.inr (.inl hb2)))
            have hb2z : (57 : Int) < ((s[k]'hlt).toNat : Int) := by omega
            go_wp2_with fail
            go_ret2
            exact NumPost.no HNO.out _
          · have hb2z : ¬ (57 : Int) < ((s[k]'hlt).toNat : Int) := by omega
            by_cases hb3 : 1099511627776 < m
            · have HNO := Lib.hid (numI_bad HN.out hm0 HG.out h0n (.inr (.inr hb3)))
              go_wp2_with fail
              go_ret2
              exact NumPost.no HNO.out _
            · have HNX := Lib.hid (numI_step HN.out hm0 HG.out (by omega) (by omega))
              have hKN : k + 1 ≤ s.size := hlt
              clear h0n
              go_wp2_with fail
              go_roundw
              case rel => exact ⟨k + 1, _, q, by go_num, rfl, hKN, by omega, Lib.hid HNX.out, rfl⟩
              case measure => simp [intOf]; omega
    · obtain rfl : k = s.size := by omega
      have hend := numI_end HN.out hm0
      by_cases hz : s.size = 0
      · have hem : s.toList.isEmpty = true := by rw [empty_eq, hz]; rfl
        have HNO := Lib.hid (empty_no hz)
        have hzz : (s.size : Int) = 0 := by omega
        have HFIN := Lib.hid (show ∀ q, NumPost s w (.returned (.tuple #[.int .i64 m, .bool false])) (w.drewN q) from fun q => ⟨m, false, rfl, Lib.hid (fun x hx e => absurd e (HNO.out x hx)), q, rfl⟩)
        clear hend
        go_wp2_with fail
        go_ret2
        exact HFIN.out _
      · have hem : s.toList.isEmpty = false := by rw [empty_eq]; exact decide_eq_false hz
        have hpos : 0 < s.size := by omega
        have hposz : (0 : Int) < (s.size : Int) := by omega
        have hget : s.data.toList[0]? = some (s[0]'hpos) := by
          rw [List.getElem?_eq_getElem (by simpa using hpos)]
          simp
          rfl
        have hbt : (s[0]'hpos).toNat < 256 := UInt8.toNat_lt _
        by_cases h45 : (s[0]'hpos).toNat = 45
        · have h45z : ((s[0]'hpos).toNat : Int) = 45 := by omega
          have HFIN := Lib.hid (show ∀ q, NumPost s w (.returned (.tuple #[.int .i64 (-m), .bool true])) (w.drewN q) from fun q => ⟨-m, true, rfl, Lib.hid (fun x hx e => ⟨by have := hend x hx e; have := (sign_of e hget).1 h45; omega, rfl⟩), q, rfl⟩)
          clear hend hget
          go_wp2_with fail
          go_ret2
          exact HFIN.out _
        · have h45z : ¬ ((s[0]'hpos).toNat : Int) = 45 := by omega
          have HFIN := Lib.hid (show ∀ q, NumPost s w (.returned (.tuple #[.int .i64 m, .bool true])) (w.drewN q) from fun q => ⟨m, true, rfl, Lib.hid (fun x hx e => ⟨by have h6 := hend x hx e; have h7 : ¬ x < 0 := (fun h => h45 ((sign_of e hget).2 h)); omega, rfl⟩), q, rfl⟩)
          clear hend hget
          go_wp2_with fail
          go_ret2
          exact HFIN.out _
end Go.Proofs.YtahgamjfglcenaaDoor
