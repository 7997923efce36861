/- What Same of the document's answers returns of two lists with the same texts: true. Conditions: both slices read as that list. -/
import Derived.Test.YtdhiipnnmonkoaaDoorWordsM
import Derived.Test.YtdhiipnnmonkoaaDoorSame
set_option linter.unusedVariables false
namespace Go.Proofs.YtdhiipnnmonkoaaDoor
open Go Go.RowKit

theorem reads_len {w : World} {B n : Nat} {A : Option Addr} {ws : List (List Int)} (h : Reads w B 1 A n (strs ws)) : n = ws.length := by
  have := h.1
  rw [strs_len] at this
  omega
theorem reads_str {w : World} {B n k : Nat} {A : Option Addr} {ws : List (List Int)} (h : Reads w B 1 A n (strs ws)) (hk : k < n) :
    ∃ ad, A = some ad ∧ ad.block < B ∧ w.cell? (ad.add k) = some (.string ⟨(enc (ws.getD k [])).toArray⟩) := by
  obtain ⟨ad, u, e, hb, hx, hc⟩ := h.at_ hk
  refine ⟨ad, e, hb, ?_⟩
  rw [hc]
  unfold strs at hx
  rw [List.getElem?_map] at hx
  obtain ⟨z, hz, rfl⟩ := Option.map_eq_some_iff.1 hx
  rw [List.getD_eq_getElem?_getD, hz]
  rfl
set_option maxHeartbeats 1000000 in
theorem sameStrs_true (A A' : Option Addr) (n m c c' B B' : Nat) (ws : List (List Int)) (w : World) (hx : Reads w B 1 A n (strs ws)) (hy : Reads w B' 1 A' m (strs ws)) (hn : n ≤ 1000000) :
    Calls Tryd.prog 24 #[.slice A n c, .slice A' m c'] w (SamePost true w) := by
  have lx := reads_len hx
  have ly := reads_len hy
  have hnm : n = m := by omega
  subst hnm
  clear lx ly
  go_enter Tryd.func24, Tryd.ntmps24
  go_wp2
  go_loopw [5] (fun i wr => ∃ k q : Nat, k ≤ n ∧ i = .int .i64 k ∧ wr = w.drewN q) (fun i _ => n - (intOf i).toNat)
  case atStart => exact ⟨0, 0, Nat.zero_le _, rfl, rfl⟩
  case round =>
    obtain ⟨k, q, hk, rfl, rfl⟩ := hrel
    by_cases hlt : k < n
    · obtain ⟨ad, rfl, _, hc⟩ := reads_str hx hlt
      obtain ⟨ad', rfl, _, hc'⟩ := reads_str hy hlt
      have hltz : (k : Int) < (n : Int) := by omega
      obtain ⟨S, hS⟩ : ∃ S : ByteArray, S = ⟨(enc (ws.getD k [])).toArray⟩ := ⟨_, rfl⟩
      rw [← hS] at hc hc'
      clear hS
      go_wp2
      go_quiet (fail)
      go_wp2
      go_roundw
      case rel => exact ⟨k + 1, _, by omega, by go_num, rfl⟩
      case measure => simp [intOf]; omega
    · go_wp2
      go_ret
      exact ⟨rfl, _, rfl⟩
end Go.Proofs.YtdhiipnnmonkoaaDoor
