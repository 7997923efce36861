/- The walk of BlockKeeps. Conditions: none. -/
import Derived.Test.YtebcodbpgleoiaaLawT
set_option linter.unusedVariables false
set_option linter.unusedSimpArgs false
namespace Go.Proofs.Ytebcodbpgleoiaa
open Go Go.RowKit
/-- Two disks that have the same, in blocks of their own. -/
structure Two (w : World) (B d q : Nat) (F G : Nat → Prop) (su su' : List ByteArray) (l m : List (Nat × ByteArray)) : Prop where
  one : Disk w F d 8 su l
  two : Disk w G q 8 su' m
  apart : ∀ b, F b → ¬ G b
  fb : ∀ b, F b → B ≤ b
  gb : ∀ b, G b → B ≤ b
section
variable {w w' : World} {B d q : Nat} {F G F' G' : Nat → Prop} {su sv su' : List ByteArray} {l m l' : List (Nat × ByteArray)}
theorem Two.drewN (h : Two w B d q F G su sv l m) (k : Nat) : Two (w.drewN k) B d q F G su sv l m := ⟨h.one.drewN k, h.two.drewN k, h.apart, h.fb, h.gb⟩
theorem Two.turn1 (h : Two w B d q F G su sv l m) (hs : B ≤ w.heap.size) (t : Turn F w F' w') (h' : Disk w' F' d 8 su' l') : Two w' B d q F' G su' sv l' m :=
  ⟨h', h.two.turn t (fun b hg hf => h.apart b hf hg), fun b hf hg => (t.foot b hf).elim (fun hf => h.apart b hf hg) (fun hb => by have := h.two.lt b hg; omega), t.far h.fb hs, h.gb⟩
theorem Two.turn2 (h : Two w B d q F G su sv l m) (hs : B ≤ w.heap.size) (t : Turn G w G' w') (h' : Disk w' G' q 8 su' l') : Two w' B d q F G' su su' l l' :=
  ⟨h.one.turn t (fun b hf hg => h.apart b hf hg), h', fun b hf hg => (t.foot b hg).elim (fun hg => h.apart b hf hg) (fun hb => by have := h.one.lt b hf; omega), h.fb, t.far h.gb hs⟩
end
theorem tearB_none (s had : ByteArray) : tearB s had 0 = had := by
  unfold tearB
  rw [Nat.min_eq_left (Nat.zero_le _)]
  simp
theorem failP_all (l : List (Nat × ByteArray)) (su : List ByteArray) (torn : Int) : failP l su (l.length : Int) torn = setsP l su := by
  have : shr (l.length : Int) l.length = l.length := by
    unfold shr
    rw [Int.toNat_natCast]
    exact Nat.mod_eq_of_lt (by omega)
  unfold failP
  rw [this, List.getElem?_eq_none (Nat.le_refl _)]
theorem failP_none (l : List (Nat × ByteArray)) (su : List ByteArray) : failP l su 0 0 = su := by
  have : shr 0 l.length = 0 := by simp [shr]
  unfold failP
  rw [this]
  rcases l with _ | ⟨p, l⟩
  · rfl
  · show tornP p su 0 = su
    unfold tornP
    rw [show shr 0 p.2.size = 0 by simp [shr], tearB_none]
    refine List.ext_getElem? fun i => ?_
    by_cases hi : p.1 = i
    · subst hi
      by_cases hl : p.1 < su.length
      · rw [List.getElem?_set_self hl, List.getD_eq_getElem?_getD, List.getElem?_eq_getElem hl]
        rfl
      · rw [List.getElem?_eq_none (by rw [List.length_set]; omega), List.getElem?_eq_none (by omega)]
    · rw [List.getElem?_set_ne hi]
set_option maxHeartbeats 2000000 in
set_option maxRecDepth 100000 in
theorem blockKeeps_walk (A : Option Addr) (n c : Nat) (l : List OpT) (A' : Option Addr) (n' c' : Nat) (l' : List OpT) (all : Bool) (W : World) (R : Ops W W.heap.size A n l) (hn : n ≤ maxLen) (R' : Ops W W.heap.size A' n' l') (hn' : n' ≤ maxLen) :
    Calls Try.prog 5 #[.slice A n c, .slice A' n' c', .bool all] W (Gives (.bool true) W) := by
  have H := Lib.hid (And.intro R R')
  clear R R'
  go_enter Try.func5, Try.ntmps5
  go_wp2_with fail
  refine (a_new 8 (by decide) (by decide) W).mono ?_
  rintro e w1 ⟨d, F, rfl, hD1, hF1, hb1⟩
  go_wp2_with fail
  refine (a_new 8 (by decide) (by decide) w1).mono ?_
  rintro e w2 ⟨q, G, rfl, hD2, hG2, hb2⟩
  have hb2' := below_then hb1 hb2
  have h2 : Two w2 W.heap.size d q F G (none_ 8) (none_ 8) [] [] := ⟨hD1.below hb2, hD2, fun b hf hg => by have := hG2 b hg; have := hD1.lt b hf; omega, hF1, fun b hg => by have := hG2 b hg; have := hb1.size; omega⟩
  clear hD1 hF1 hb1 hD2 hG2 hb2
  by_cases h40 : 40 < n
  · have h40z : (40 : Int) < (n : Int) := by omega
    clear h40
    go_wp2_with fail
    refine (awake_any w2).mono ?_
    rintro e w9 ⟨rfl, hb9⟩
    go_wp2_with fail
    go_ret
    exact ⟨rfl, below_then hb2' hb9⟩
  have h40z : ¬ (40 : Int) < (n : Int) := by omega
  by_cases h40' : 40 < n'
  · have h40z' : (40 : Int) < (n' : Int) := by omega
    clear h40'
    go_wp2_with fail
    refine (awake_any w2).mono ?_
    rintro e w9 ⟨rfl, hb9⟩
    go_wp2_with fail
    go_ret
    exact ⟨rfl, below_then hb2' hb9⟩
  have h40z' : ¬ (40 : Int) < (n' : Int) := by omega
  go_wp2_with fail
  go_loopw [11] (fun i wr => ∃ (k : Nat) (F G : Nat → Prop) (ll : List (Nat × ByteArray)), i = .int .i64 (k : Int) ∧ k ≤ n ∧ Two wr W.heap.size d q F G (none_ 8) (none_ 8) ll ll ∧ ll.length ≤ k ∧ Below W.heap.size W wr) (fun i _ => n - (intOf i).toNat)
  case atStart => exact ⟨0, F, G, _, rfl, Nat.zero_le _, h2, Nat.le_refl _, hb2'⟩
  case round =>
    clear h2 hb2' F G w2 w1
    obtain ⟨k, F, G, ll, rfl, hk, hD, hll, hB⟩ := hrel
    by_cases hlt : k < n
    · have hltz : (k : Int) < (n : Int) := by omega
      obtain ⟨ad, o, hA, hlk, hgo, hbk, c0, c1, c2, c3⟩ := (H.out.1.below hB).at_ hlt
      subst hA
      have hlen : ll.length ≤ 1000000 := by omega
      have hbk' : (ad.add (k * 4)).block < W.heap.size := by rw [block_of_add]; exact hbk
      have hsz : o.s.size ≤ 9223372036854775807 := by have := hgo.2.2; simp only [maxLen] at this; omega
      have hlb : (ad.add (k * 4)).block < wr.heap.size := Nat.lt_of_lt_of_le hbk' hB.size
      have HX := Lib.hid (And.intro hD (And.intro hll hB))
      clear hD hll hB hgo hlk c0 c2
      go_wp2_with fail
      go_region_held3 (fun w' => w'.cell? ⟨(ad.add (k * 4)).block, (ad.add (k * 4)).off + 1, none⟩ = some (.int .i64 o.a) ∧ w'.cell? ⟨(ad.add (k * 4)).block, (ad.add (k * 4)).off + 3, none⟩ = some (.string o.s))
        (first | exact ⟨c7, c8⟩ | exact ⟨c5, c6⟩ | exact ⟨c1, c3⟩)
        (first
          | (go_at_call 12; refine (a_put_any hP1.out.1.two o.a o.s hsz hlen).mono ?_; rintro e w4 ⟨rfl, G4, hD4, hT4⟩; have hB4 := hT4.down hP1.out.1.gb hP1.out.2.size; have c7 := (hB4.cell (p := ⟨(ad.add (k * 4)).block, (ad.add (k * 4)).off + 1, none⟩) hbk').trans c5; have c8 := (hB4.cell (p := ⟨(ad.add (k * 4)).block, (ad.add (k * 4)).off + 3, none⟩) hbk').trans c6; have hP2 := Lib.hid (And.intro (hP1.out.1.turn2 hP1.out.2.size hT4 hD4) (hP1.out.2.trans hB4)); clear hD4 hT4 hB4)
          | (go_at_call 12; refine (a_put_any (HX.out.1.one.drewN 1) o.a o.s hsz hlen).mono ?_; rintro e w3 ⟨rfl, F3, hD3, hT3⟩; have hB3 := hT3.down HX.out.1.fb HX.out.2.2.size; have c5 := (hB3.cell (p := ⟨(ad.add (k * 4)).block, (ad.add (k * 4)).off + 1, none⟩) hbk').trans c1; have c6 := (hB3.cell (p := ⟨(ad.add (k * 4)).block, (ad.add (k * 4)).off + 3, none⟩) hbk').trans c3; have hP1 := Lib.hid (And.intro ((HX.out.1.drewN 1).turn1 HX.out.2.2.size hT3 hD3) ((below_drewN HX.out.2.2 1).trans hB3)); clear hD3 hT3 hB3))
      clear c1 c3 c5 c6 c7 c8 hlb
      go_wp2_with fail
      go_roundw
      case rel => exact ⟨k + 1, F3, G4, _, by go_num, by omega, hP2.out.1, by have := putL_len 8 ll o.a o.s; have := HX.out.2.1; omega, hP2.out.2⟩
      case measure => simp [intOf]; omega
    · have hlen : ll.length ≤ 1000000 := by omega
      have HX := Lib.hid (And.intro hD hB)
      clear hD hll hB
      go_wp2_with fail
      refine (a_sync HX.out.1.one hlen).mono ?_
      rintro e w3 ⟨rfl, hD3, hT3⟩
      have H3 := HX.out.1.turn1 HX.out.2.size hT3 hD3
      have hB3 := HX.out.2.trans (hT3.down HX.out.1.fb HX.out.2.size)
      have hX3 := Lib.hid (And.intro H3 hB3)
      clear hD3 hT3 H3 hB3
      go_wp2_with fail
      refine (a_sync hX3.out.1.two hlen).mono ?_
      rintro e w4 ⟨rfl, hD4, hT4⟩
      have HY := Lib.hid (And.intro (hX3.out.1.turn2 hX3.out.2.size hT4 hD4) (hX3.out.2.trans (hT4.down hX3.out.1.gb hX3.out.2.size)))
      have hSl : (setsP ll (none_ 8)).length = 8 := hD4.len
      clear hD4 hT4 hX3 HX hlen
      generalize setsP ll (none_ 8) = S at *
      have HL := Lib.hid hSl
      clear hSl
      go_wp2_with fail
      clear hk hlt
      go_loopw [12] (fun i wr => ∃ (k : Nat) (F G : Nat → Prop) (ll : List (Nat × ByteArray)), i = .int .i64 (k : Int) ∧ k ≤ n' ∧ Two wr W.heap.size d q F G S S ll (bif all then ll else []) ∧ ll.length ≤ k ∧ Below W.heap.size W wr) (fun i _ => n' - (intOf i).toNat)
      case atStart => exact ⟨0, _, _, [], rfl, Nat.zero_le _, by have := HY.out.1; cases all <;> exact this, Nat.le_refl _, HY.out.2⟩
      case round =>
        clear HY
        obtain ⟨k, F, G, ll, rfl, hk, hD, hll, hB⟩ := hrel
        by_cases hlt : k < n'
        · have hltz : (k : Int) < (n' : Int) := by omega
          obtain ⟨ad, o, hA, hlk, hgo, hbk, c0, c1, c2, c3⟩ := (H.out.2.below hB).at_ hlt
          subst hA
          have hlen : ll.length ≤ 1000000 := by omega
          have hbk' : (ad.add (k * 4)).block < W.heap.size := by rw [block_of_add]; exact hbk
          have hsz : o.s.size ≤ 9223372036854775807 := by have := hgo.2.2; simp only [maxLen] at this; omega
          have hlb : (ad.add (k * 4)).block < wr.heap.size := Nat.lt_of_lt_of_le hbk' hB.size
          have HX := Lib.hid (And.intro hD (And.intro hll hB))
          clear hD hll hB hgo hlk c0 c2
          cases all with
          | true =>
            go_wp2_with fail
            go_still_tail 11, (by kernel_rfl)
            change wpList _ _ _ _ _ wr.drew
            go_wp2_with (go_at_call 12; refine (a_put_any (HX.out.1.one.drewN 1) o.a o.s hsz hlen).mono ?_; rintro e w3 ⟨rfl, F3, hD3, hT3⟩; have hB3 := hT3.down HX.out.1.fb HX.out.2.2.size; have c5 := (hB3.cell (p := ⟨(ad.add (k * 4)).block, (ad.add (k * 4)).off + 1, none⟩) hbk').trans c1; have c6 := (hB3.cell (p := ⟨(ad.add (k * 4)).block, (ad.add (k * 4)).off + 3, none⟩) hbk').trans c3; have hP1 := Lib.hid (And.intro ((HX.out.1.drewN 1).turn1 HX.out.2.2.size hT3 hD3) ((below_drewN HX.out.2.2 1).trans hB3)); have hlb3 := Nat.lt_of_lt_of_le hlb hT3.size; clear hD3 hT3 hB3)
            go_still_tail 11, (by kernel_rfl)
            change wpList _ _ _ _ _ w3.drew
            go_wp2_with (go_at_call 12; refine (a_put_any (hP1.out.1.two.drewN 1) o.a o.s hsz hlen).mono ?_; rintro e w4 ⟨rfl, G4, hD4, hT4⟩)
            have hP2 := And.intro ((hP1.out.1.drewN 1).turn2 hP1.out.2.size hT4 hD4) ((below_drewN hP1.out.2 1).trans (hT4.down hP1.out.1.gb hP1.out.2.size))
            go_roundw
            case rel => exact ⟨k + 1, F3, G4, _, by go_num, by omega, hP2.1, by have := putL_len 8 ll o.a o.s; have := HX.out.2.1; omega, hP2.2⟩
            case measure => simp [intOf]; omega
          | false =>
            go_wp2_with fail
            go_still_tail 11, (by kernel_rfl)
            change wpList _ _ _ _ _ wr.drew
            go_wp2_with (go_at_call 12; refine (a_put_any (HX.out.1.one.drewN 1) o.a o.s hsz hlen).mono ?_; rintro e w3 ⟨rfl, F3, hD3, hT3⟩)
            have hP1 := And.intro ((HX.out.1.drewN 1).turn1 HX.out.2.2.size hT3 hD3) ((below_drewN HX.out.2.2 1).trans (hT3.down HX.out.1.fb HX.out.2.2.size))
            go_roundw
            case rel => exact ⟨k + 1, F3, G, _, by go_num, by omega, hP1.1, by have := putL_len 8 ll o.a o.s; have := HX.out.2.1; omega, hP1.2⟩
            case measure => simp [intOf]; omega
        · have hlen : ll.length ≤ 1000000 := by omega
          have HX := Lib.hid (And.intro hD hB)
          clear hD hll hB
          cases all with
          | true =>
            go_wp2_with fail
            refine (a_loose HX.out.1.one).mono ?_
            rintro e w5 ⟨rfl, q5, rfl⟩
            go_wp2_with fail
            refine (a_fail (HX.out.1.one.drewN _) hlen (ll.length : Int) 0 (by omega) (by omega) (by decide) (by decide)).mono ?_
            rintro e w6 ⟨rfl, hD6, hT6⟩
            rw [failP_all] at hD6
            have h6 := (HX.out.1.drewN _).turn1 HX.out.2.size hT6 hD6
            have hB6 := (below_drewN HX.out.2 _).trans (hT6.down HX.out.1.fb HX.out.2.size)
            clear hD6 hT6
            obtain ⟨X, hX⟩ : ∃ X, setsP ll S = X := ⟨_, rfl⟩
            rw [hX] at h6
            have HZ := Lib.hid (And.intro h6.one (And.intro (show Disk w6 G q 8 S ll from h6.two) (And.intro (show setsP [] X = X from rfl) (And.intro (show setsP ll S = X from hX) hB6))))
            clear h6 hB6 hX HX
            go_wp2_with fail
            refine (a_loose HZ.out.1).mono ?_
            rintro e w5 ⟨rfl, q5, rfl⟩
            go_wp2_with fail
            go_loopw [14] (fun i wr => ∃ (k j : Nat), i = .int .i64 (k : Int) ∧ k ≤ 8 ∧ wr = w6.drewN j) (fun i _ => 8 - (intOf i).toNat)
            case atStart => exact ⟨0, _, rfl, by omega, rfl⟩
            case round =>
              obtain ⟨j, p, rfl, hj, rfl⟩ := hrel
              by_cases hlt : j < 8
              · have hltz : (j : Int) < 8 := by omega
                have hg1 := a_get (HZ.out.1.drewN p) j hlt
                have hg2 := fun p' => a_get (HZ.out.2.1.drewN p') j hlt
                rw [HZ.out.2.2.1] at hg1
                rw [HZ.out.2.2.2.1] at hg2
                generalize X.getD j ⟨#[]⟩ = z at *
                have HG1 := Lib.hid hg1
                have HG2 := Lib.hid hg2
                clear hg1 hg2
                go_wp2_with fail
                refine HG1.out.mono ?_
                rintro e w7 ⟨rfl, q7, rfl⟩
                go_wp2_with fail
                refine (HG2.out _).mono ?_
                rintro e w8 ⟨rfl, q8, rfl⟩
                go_wp2_with fail
                go_roundw
                case rel => exact ⟨j + 1, _, by go_num, by omega, rfl⟩
                case measure => simp [intOf]; omega
              · obtain rfl : j = 8 := by omega
                go_wp2_with fail
                refine (awake_any _).mono ?_
                rintro e w8 ⟨rfl, hb8⟩
                go_wp2_with fail
                go_ret
                exact ⟨rfl, below_then (below_drewN HZ.out.2.2.2.2 p) hb8⟩
          | false =>
            go_wp2_with fail
            refine (a_fail HX.out.1.one hlen 0 0 (by decide) (by decide) (by decide) (by decide)).mono ?_
            rintro e w6 ⟨rfl, hD6, hT6⟩
            rw [failP_none] at hD6
            have h6 := HX.out.1.turn1 HX.out.2.size hT6 hD6
            have hB6 := HX.out.2.trans (hT6.down HX.out.1.fb HX.out.2.size)
            clear hD6 hT6
            obtain ⟨X, hX⟩ : ∃ X, S = X := ⟨_, rfl⟩
            rw [hX] at h6
            have HZ := Lib.hid (And.intro h6.one (And.intro (show Disk w6 G q 8 X [] from h6.two) (And.intro (show setsP [] X = X from rfl) (And.intro (show setsP [] X = X from rfl) hB6))))
            clear h6 hB6 hX HX
            go_wp2_with fail
            refine (a_loose HZ.out.1).mono ?_
            rintro e w5 ⟨rfl, q5, rfl⟩
            go_wp2_with fail
            go_loopw [14] (fun i wr => ∃ (k j : Nat), i = .int .i64 (k : Int) ∧ k ≤ 8 ∧ wr = w6.drewN j) (fun i _ => 8 - (intOf i).toNat)
            case atStart => exact ⟨0, _, rfl, by omega, rfl⟩
            case round =>
              obtain ⟨j, p, rfl, hj, rfl⟩ := hrel
              by_cases hlt : j < 8
              · have hltz : (j : Int) < 8 := by omega
                have hg1 := a_get (HZ.out.1.drewN p) j hlt
                have hg2 := fun p' => a_get (HZ.out.2.1.drewN p') j hlt
                rw [HZ.out.2.2.1] at hg1
                rw [HZ.out.2.2.2.1] at hg2
                generalize X.getD j ⟨#[]⟩ = z at *
                have HG1 := Lib.hid hg1
                have HG2 := Lib.hid hg2
                clear hg1 hg2
                go_wp2_with fail
                refine HG1.out.mono ?_
                rintro e w7 ⟨rfl, q7, rfl⟩
                go_wp2_with fail
                refine (HG2.out _).mono ?_
                rintro e w8 ⟨rfl, q8, rfl⟩
                go_wp2_with fail
                go_roundw
                case rel => exact ⟨j + 1, _, by go_num, by omega, rfl⟩
                case measure => simp [intOf]; omega
              · obtain rfl : j = 8 := by omega
                go_wp2_with fail
                refine (awake_any _).mono ?_
                rintro e w8 ⟨rfl, hb8⟩
                go_wp2_with fail
                go_ret
                exact ⟨rfl, below_then (below_drewN HZ.out.2.2.2.2 p) hb8⟩
end Go.Proofs.Ytebcodbpgleoiaa
