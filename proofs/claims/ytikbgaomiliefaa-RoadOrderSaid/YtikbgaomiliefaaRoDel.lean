/- slices.Delete of one letter of a queue. Conditions: none. -/
import Derived.Test.YtikbgaomiliefaaRoQRun
import Derived.Shelf.RegionOpenPlain
set_option linter.unusedVariables false
set_option linter.unusedSimpArgs false
set_option maxRecDepth 100000
namespace Go.Proofs.Ytikbgaomiliefaa.Ro
open Go Go.RowKit
theorem lts_pre (L : List Lt) (p q : Nat) (h : p * 3 ≤ (lts L).length) : (lts L).take (p * 3) = lts (L.take p) := lts_take L p
section
variable {w : World} {s : Sl} {L : List Lt}
set_option maxHeartbeats 4000000 in
theorem delete_any (b off n d : Nat) (h : QB w b off n d L) (i : Nat) (hi : i < n) :
    Calls Try.prog 33 #[.slice (some ⟨b, off, none⟩) n d, .int .i64 (i : Int), .int .i64 ((i : Int) + 1)] w fun e w' =>
      e = .returned (.slice (some ⟨b, off, none⟩) (n - 1) d) ∧ QB w' b off (n - 1) d (cutT L i 1 []) ∧ Turn (Ob (some ⟨b, off, none⟩)) w (Ob (some ⟨b, off, none⟩)) w' := by
  obtain ⟨i0, hi0, hz0, hz1, hz2⟩ := info_parts letter_row
  have hl := h.len
  have hle := h.le
  obtain ⟨j, hj⟩ : ∃ j, j = i + 1 := ⟨_, rfl⟩
  have hjz : (i : Int) + 1 = (j : Int) := by omega
  rw [hjz]
  obtain ⟨news, hnews⟩ : ∃ news, news = lts (L.drop j) := ⟨_, rfl⟩
  have hlen : news.length = (n - j) * 3 := by rw [hnews, lts_len, List.length_drop, hl]
  have hdrop : news = (lts L).drop (j * 3) := by rw [hnews, lts_drop]
  obtain ⟨A, hA, hsrc⟩ : ∃ A : Addr, (if d = j then some (⟨b, off, none⟩ : Addr) else some ⟨b, off + j * 3, none⟩) = some A ∧ Hid (∀ t u, news[t]? = some u → w.drew.cell? (A.add t) = some u) := by
    by_cases hd : d = j
    · refine ⟨⟨b, off, none⟩, by simp [hd], fun t u hu => ?_⟩
      have h0 : news.length = 0 := by rw [hlen]; omega
      rw [List.length_eq_zero_iff.1 h0] at hu
      simp at hu
    · refine ⟨⟨b, off + j * 3, none⟩, by simp [hd], fun t u hu => ?_⟩
      rw [add_flat, Nat.add_assoc]
      refine h.reads _ u ?_
      rw [hdrop, List.getElem?_drop] at hu
      exact hu
  have s1 : Hid (news.length = (n - j) * 3) := hlen
  have s2 : Hid (∀ u ∈ news, u.oneCell' = true) := by rw [hnews]; exact lts_one _
  have s3 : Hid (∀ t, t < news.length → (w.drew.cell? ⟨b, off + i * 3 + t, none⟩).isSome = true ∧ w.drew.frozen? ⟨b, off + i * 3 + t, none⟩ = false) := by
    intro t ht
    rw [hlen] at ht
    rw [Nat.add_assoc]
    exact h.room (i * 3 + t) (by omega)
  obtain ⟨W1, hW1⟩ : ∃ W1, W1 = w.drew.setCells b (off + i * 3) news := ⟨_, rfl⟩
  have hll : (lts L).length = n * 3 := by rw [lts_len, hl]
  have hcl : (cutT L i 1 []).length = n - 1 := by rw [cutT_len (by omega)]; simp; omega
  have hq1 : QB W1 b off (n - 1) d (cutT L i 1 []) := by
    rw [hW1]
    refine h.drew.sets (i * 3) news _ _ (by omega) (by omega) hcl.symm (by omega) ⟨(lts L).drop (i * 3 + news.length), ?_⟩
    rw [lts_take, hnews]
    unfold cutT
    rw [← lts_app, List.append_nil, hj, List.append_assoc]
  have T1 : Turn (Ob (some ⟨b, off, none⟩)) w (Ob (some ⟨b, off, none⟩)) W1 := by
    rw [hW1]
    exact (Turn.drewN _ w 1).trans (Turn.sets (F := Ob (some ⟨b, off, none⟩)) ⟨_, rfl, rfl⟩ _ _)
  have hzs : ∀ v ∈ lc noL, v.oneCell' = true := lc_one noL
  have hroom : ∀ t, t < 3 → (W1.cell? ⟨b, off + (n - 1) * 3 + t, none⟩).isSome = true ∧ W1.frozen? ⟨b, off + (n - 1) * 3 + t, none⟩ = false := fun t ht => by
    rw [Nat.add_assoc]
    exact hq1.room _ (by omega)
  have hclr : ∀ ty c, (Builtin.clear_ #[59] ty #[.slice (some ⟨b, off + (n - 1) * 3, none⟩) 1 c]).run Try.prog W1 = .ok (.tuple #[]) (W1.setCells b (off + (n - 1) * 3) (lc noL)) :=
    fun ty c => run_clear1 W1 59 34 ty _ (lc noL) Try.underlying59 Try.zeroValue34 rfl hzs b _ c (fun j hj => (hroom j hj).1) (fun j hj => (hroom j hj).2)
  have hq2 : QB (W1.setCells b (off + (n - 1) * 3) (lc noL)) b off (n - 1) d (cutT L i 1 []) := by
    have h3 : (lc noL).length = 3 := rfl
    refine hq1.sets ((n - 1) * 3) (lc noL) _ _ (by omega) (by rw [lts_len, hcl]; omega) hcl.symm (by omega) ⟨lc noL ++ (lts (cutT L i 1 [])).drop ((n - 1) * 3 + 3), ?_⟩
    rw [List.take_of_length_le (by rw [lts_len, hcl]; omega), h3]
  have T2 : Turn (Ob (some ⟨b, off, none⟩)) w (Ob (some ⟨b, off, none⟩)) (W1.setCells b (off + (n - 1) * 3) (lc noL)) := T1.trans (Turn.sets (F := Ob (some ⟨b, off, none⟩)) ⟨_, rfl, rfl⟩ _ _)
  have HE := Lib.hid (And.intro hq2 T2)
  have hW : Hid (W1 = w.drew.setCells b (off + i * 3) news) := hW1
  have hic : i ≤ d := by omega
  have hjc : j ≤ d := by omega
  have hij : i ≤ j := by omega
  have hne : ¬ ((i : Int) = (j : Int)) := by omega
  have hjn : j ≤ n := by omega
  have hin : i + (n - j) = n - 1 := by omega
  have hn1 : n - (n - 1) = 1 := by omega
  have hnd : ¬ (d = n - 1) := by omega
  have hmax := h.max
  have mixed : Try.prog.follows .mixedOrders = true := by kernel_rfl
  clear hW1 hq1 T1 hq2 T2 hroom hcl hll hlen hdrop hnews hjz hj h hl
  go_enter Try.func33, Try.ntmps33
  go_wp2_with fail
  go_region_law_o (refine step_append_room rfl (.tmp 22) (.tmp 25) 59 rfl 34 i0 3 Try.underlying59 hi0 hz1 b off i d (by simp [Act.eval, Act.put]) A (n - j) (d - j) news (by simp [Act.eval, Act.put]) s1.out hsrc.out s2.out (by omega) s3.out ?_; rw [← hW.out])
  go_wp2
  go_ret
  exact ⟨rfl, HE.out⟩
end
end Go.Proofs.Ytikbgaomiliefaa.Ro
