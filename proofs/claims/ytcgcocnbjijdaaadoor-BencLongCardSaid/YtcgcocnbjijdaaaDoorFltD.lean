/- What rest of package benc returns, whatever was seen: what of a list is not gone over yet. Conditions: the map's keys are none, or addresses of cells that are not frozen; so is the list's first address. -/
import Derived.Test.YtcgcocnbjijdaaaDoorFltC
set_option linter.unusedVariables false
set_option linter.unusedSimpArgs false
namespace Go.Proofs.YtcgcocnbjijdaaaDoor
open Go Go.RowKit

/-- What of a list is not gone over yet: a part of it, from some place on. -/
def RestPost (B0 : Nat) (A : Option Addr) (n c mb : Nat) (w : World) (e : Ending) (w' : World) : Prop :=
  MapOk B0 w' mb ∧ w.grownBy w' (some mb) ∧ ((e = .returned (.tuple #[.slice none 0 0, .bool false]) ∧ ¬ MapNew w mb) ∨
    ∃ (j : Nat) (A' : Option Addr) (c' : Nat), j ≤ n ∧ n - j ≤ c' ∧ c' ≤ c ∧ e = .returned (.tuple #[.slice A' (n - j) c', .bool true]) ∧ (MapNew w mb → j = 0) ∧ (0 < n - j → A' = A.map (·.add (j * 4))))
theorem ret_slice {A A' : Option Addr} {a a' c c' : Nat} {v : Value} (h1 : A = A') (h2 : a = a') (h3 : c = c') : Ending.returned (.tuple #[.slice A a c, v]) = .returned (.tuple #[.slice A' a' c', v]) := by rw [h1, h2, h3]
set_option maxRecDepth 100000 in
set_option maxHeartbeats 8000000 in
theorem rest_any (B0 : Nat) (A : Option Addr) (n c mb : Nat) (w : World) (hA : 0 < n → ∃ b o ca t fr, A = some ⟨b, o, none⟩ ∧ w.heap[b]? = some (.cells ca t fr) ∧ w.frozen? ⟨b, o, none⟩ = false ∧ b < B0) (hc : n ≤ c) (hcm : c ≤ 9223372036854775807) (hm : MapOk B0 w mb) :
    Calls Tryd.prog 54 #[.map (some mb), .slice A n c] w (RestPost B0 A n c mb w) := by
  obtain ⟨key, hkey, hk⟩ : ∃ key, key = (if 0 < n then Value.pointer A else .pointer none) ∧ GoodKey B0 w key := by
    by_cases hn : 0 < n
    · obtain ⟨b, o, ca, t, fr, rfl, hb, hf⟩ := hA hn
      exact ⟨_, rfl, by rw [if_pos hn]; exact .inr ⟨_, _, _, _, rfl, hb, hf⟩⟩
    · exact ⟨_, rfl, by rw [if_neg hn]; exact .inl rfl⟩
  obtain ⟨z, known, q, hlk, hz0, hz1, hkn, hnew⟩ := run_lookup_any hm hk
  obtain ⟨j, rfl⟩ : ∃ j : Nat, z = (j : Int) := ⟨z.toNat, by omega⟩
  have hmq : MapOk B0 (w.drewN q) mb := hm
  have hkq : GoodKey B0 (w.drewN q) key := hk
  obtain ⟨w2, hup, hm2, hg2⟩ := run_update_any (z := (n : Int)) hmq hkq (by omega) (by omega)
  have hg2' : w.grownBy w2 (some mb) := ⟨hg2.os, hg2.tape, hg2.output, hg2.size, hg2.block⟩
  have HNEW := Lib.hid hnew
  have HKN := Lib.hid hkn
  have HM2 := Lib.hid hm2
  have HM := Lib.hid hmq
  clear hnew hkn hm2 hmq hkq hm hg2
  by_cases hskip : known = true ∧ n ≤ j
  · obtain ⟨rfl, hnj⟩ := hskip
    have hnz : (n : Int) ≤ (j : Int) := by omega
    have hres : RestPost B0 A n c mb w (.returned (.tuple #[.slice none 0 0, .bool false])) (w.drewN q) := ⟨HM.out, grown_drewN (World.grownBy.refl _ _) _, .inl ⟨rfl, fun h => by have := HNEW.out h; cases this⟩⟩
    have HRES := Lib.hid hres
    clear hres
    by_cases hn : 0 < n
    · obtain ⟨b, o, ca, t, fr, rfl, hb, hf⟩ := hA hn
      rw [if_pos hn] at hkey
      subst hkey
      have hn1 : (0 : Int) < (n : Int) := by omega
      clear hA hb hf
      go_enter Tryd.func54, Tryd.ntmps54
      go_wp2
      go_ret2
      exact HRES.out
    · rw [if_neg hn] at hkey
      subst hkey
      have hn1 : ¬ (0 : Int) < (n : Int) := by omega
      clear hA
      go_enter Tryd.func54, Tryd.ntmps54
      go_wp2
      go_ret2
      exact HRES.out
  · have hjn : j ≤ n := by
      cases hkk : known with
      | true =>
        by_cases h : n ≤ j
        · exact absurd ⟨hkk, h⟩ hskip
        · omega
      | false => have := HKN.out hkk; omega
    have hj0 : MapNew w mb → j = 0 := fun h => by have := HKN.out (HNEW.out h); omega
    have HJ0 := Lib.hid hj0
    have hlt : known = true → (j : Int) < (n : Int) := fun h => by
      by_cases h' : n ≤ j
      · exact absurd ⟨h, h'⟩ hskip
      · omega
    clear hj0 hskip
    by_cases hn : 0 < n
    · obtain ⟨b, o, ca, t, fr, rfl, hb, hf⟩ := hA hn
      rw [if_pos hn] at hkey
      subst hkey
      have hn1 : (0 : Int) < (n : Int) := by omega
      have hcj : ¬ c = j := by
        cases hkk : known with
        | true => have := hlt hkk; omega
        | false => have := HKN.out hkk; omega
      have hcjz : (j : Int) ≤ (c : Int) := by omega
      have hjz : (j : Int) ≤ (n : Int) := by omega
      have hnc : (n : Int) ≤ (c : Int) := by omega
      clear hA hb hf
      have hdis : (known = true ∧ (j : Int) < (n : Int)) ∨ known = false := by
        cases hkk : known with
        | true => exact .inl ⟨rfl, hlt hkk⟩
        | false => exact .inr rfl
      clear hlt
      rcases hdis with ⟨rfl, hjn'⟩ | rfl
      · go_enter Tryd.func54, Tryd.ntmps54
        go_wp2
        go_ret2
        exact ⟨HM2.out, hg2', .inr ⟨j, some ⟨b, o + j * 4, none⟩, c - j, hjn, by omega, by omega, rfl, HJ0.out, fun _ => by simp [add_flat]⟩⟩
      · have hj : j = 0 := by have := HKN.out rfl; omega
        subst hj
        go_enter Tryd.func54, Tryd.ntmps54
        go_wp2
        go_ret2
        refine ⟨HM2.out, hg2', .inr ⟨0, some ⟨b, o, none⟩, c, hjn, by omega, by omega, ret_slice rfl rfl rfl, fun _ => rfl, fun _ => by simp [Addr.add]⟩⟩
    · rw [if_neg hn] at hkey
      subst hkey
      have hn0 : n = 0 := by omega
      subst hn0
      have hdis : known = false := by
        cases hkk : known with
        | true => have := hlt hkk; omega
        | false => rfl
      subst hdis
      have hj : j = 0 := by omega
      subst hj
      clear hlt hA hn
      change (Instr.mapUpdate 68 (.map (some mb)) (.pointer none) (.int .i64 0)).run Tryd.prog (w.drewN q) = _ at hup
      change _ = Result.ok (Value.tuple #[.int .i64 0, .bool false]) (w.drewN q) at hlk
      by_cases hc0 : c = 0
      · subst hc0
        rcases A with _ | a
        all_goals
          go_enter Tryd.func54, Tryd.ntmps54
          go_wp2
          go_ret2
          exact ⟨HM2.out, hg2', .inr ⟨0, _, 0, hjn, by omega, by omega, ret_slice rfl rfl rfl, fun _ => rfl, fun h => by omega⟩⟩
      · rcases A with _ | a
        all_goals
          go_enter Tryd.func54, Tryd.ntmps54
          go_wp2
          go_ret2
          exact ⟨HM2.out, hg2', .inr ⟨0, _, c, hjn, by omega, by omega, ret_slice rfl rfl rfl, fun _ => rfl, fun h => by omega⟩⟩
end Go.Proofs.YtcgcocnbjijdaaaDoor
