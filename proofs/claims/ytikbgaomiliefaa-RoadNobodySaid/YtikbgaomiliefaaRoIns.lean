/- slices.Insert of one letter into a queue. Conditions: none. -/
import Derived.Test.YtikbgaomiliefaaRoDel
import Derived.Shelf.Spec.SlicesInsertGrow
import Derived.Lib.Overlaps
set_option linter.unusedVariables false
set_option linter.unusedSimpArgs false
set_option maxRecDepth 100000
namespace Go.Proofs.Ytikbgaomiliefaa.Ro
open Go Go.RowKit
theorem qb_cells {w : World} {E : TypeId} {g n c : Nat} {cur : Array Value} {L : List Lt} (hg : w.heap[g]? = some (.cells cur E (0, 0))) (hn : n = L.length) (h1 : n ≤ c) (h2 : c ≤ maxLen) (h3 : cur.size = c * 3) (h4 : cur.toList.take (n * 3) = lts L) (h0 : 0 < c) : QB w g 0 n c L := by
  refine ⟨hn, h1, h2, ⟨E, cur.size, by omega, by simp only [World.shape?, hg]⟩, fun j hj => ⟨?_, ?_⟩, fun j u hu => ?_⟩
  · simp only [World.cell?, hg, Nat.zero_add]
    rw [Array.getElem?_eq_getElem (by omega)]
    rfl
  · simp only [World.frozen?, hg]
    simp
  · rw [Nat.zero_add]
    simp only [World.cell?, hg]
    rw [← h4, List.getElem?_take] at hu
    split at hu
    · simpa using hu
    · simp at hu
theorem letter_size : (Try.prog.info? 34).map (·.size) = some 3 := by kernel_rfl
def zlt : Value := .agg #[.int .i64 0, .int .i64 0, .string ByteArray.empty]
theorem ovl_no (W : World) (g b o : Nat) {l : Lt} (hr : Row W g 34 (lc l)) (hs : ∃ t k, k ≠ 0 ∧ W.shape? b = some (t, k)) (hne : g ≠ b) (lb cb : Nat) :
    (callFunc 36 #[.slice (some ⟨g, 0, none⟩) 1 1, .slice (some ⟨b, o, none⟩) lb cb]).run Try.prog W = .ok (.value (.bool false)) W := by
  obtain ⟨t, k, hk, hsb⟩ := hs
  have hsa : W.shape? g = some (34, 3) := by
    unfold Row at hr
    simp only [World.shape?, hr]
    rfl
  rw [run_callFunc_extern Try.func36 (by kernel_rfl) (by kernel_rfl) (by kernel_rfl) (e := Extern.SlicesOverlaps.overlaps #[58, 58] #[4]) (by kernel_rfl),
    Lib.run_overlaps_apart W 58 4 34 Try.underlying58 3 Try.sizeOf34 ⟨g, 0, none⟩ ⟨b, o, none⟩ 1 1 lb cb hne 34 t 3 k hsa hsb hk (hr.frozen 0) (hr.frozen 3)]
  rfl
def InsPost (A : Option Addr) (w : World) (L : List Lt) (e : Ending) (w' : World) : Prop := ∃ s', e = .returned (sc s') ∧ QA w' s' L ∧ Turn (Ob A) w (Ob s'.1) w'
section
variable {w : World} {L : List Lt} {l : Lt}
set_option maxHeartbeats 4000000 in
theorem ins_room (b off n d : Nat) (h : QB w b off n d L) (p : Nat) (hp : p < n) (hn : n ≤ 1000000) (g : Nat) (hr : Row w g 34 (lc l)) (hgb : g ≠ b) (hc : n + 1 ≤ d) :
    Calls Try.prog 34 #[.slice (some ⟨b, off, none⟩) n d, .int .i64 (p : Int), .slice (some ⟨g, 0, none⟩) 1 1] w (InsPost (some ⟨b, off, none⟩) w (cutT L p 0 [l])) := by
  have hl := h.len
  have hle := h.le
  have hcm := h.max
  have hll : (lts L).length = n * 3 := by rw [lts_len, hl]
  have hdl : (lts (L.drop p)).length = (n - p) * 3 := by rw [lts_len, List.length_drop, hl]
  obtain ⟨W2, hW2⟩ : ∃ W2, W2 = w.drew.setCells b (off + (p + 1) * 3) (lts (L.drop p)) := ⟨_, rfl⟩
  have hcpA : ∀ ty dc sc, (Builtin.copy_ #[59, 59] ty #[.slice (some ⟨b, off + (p + 1) * 3, none⟩) (n + 1 - (p + 1)) dc, .slice (some ⟨b, off + p * 3, none⟩) (n + 1 - p) sc]).run Try.prog w.drew = .ok (goInt ((n - p : Nat) : Int)) W2 := fun ty dc sc => by
    have e : Nat.min (n + 1 - p) (n + 1 - (p + 1)) = n - p := by simp only [Nat.min_def]; split <;> omega
    have := run_copy3 (P := Try.prog) w.drew 59 59 ty 34 b (off + (p + 1) * 3) (n + 1 - (p + 1)) dc ⟨b, off + p * 3, none⟩ (n + 1 - p) sc (lts (L.drop p)) Try.underlying59 letter_size (by rw [e, hdl])
      (fun j v hj => by
        rw [add_flat, Nat.add_assoc]
        refine h.reads _ v ?_
        rw [← hj, ← lts_drop, List.getElem?_drop])
      (fun j hj => by rw [Nat.add_assoc]; exact (h.room _ (by omega)).1) (fun j hj => by rw [Nat.add_assoc]; exact (h.room _ (by omega)).2) (lts_one _)
    rw [e] at this
    rw [this, hW2]
  have hq2 : QB W2 b off (n + 1) d (L.take (p + 1) ++ L.drop p) := by
    rw [hW2]
    refine h.drew.sets ((p + 1) * 3) _ _ _ (by omega) (by omega) (by simp; omega) hc ⟨(lts L).drop ((p + 1) * 3 + (lts (L.drop p)).length), ?_⟩
    rw [lts_take, ← lts_app, List.append_assoc]
  have T2 : Turn (Ob (some ⟨b, off, none⟩)) w (Ob (some ⟨b, off, none⟩)) W2 := by
    rw [hW2]
    exact (Turn.drewN _ w 1).trans (Turn.sets (F := Ob (some ⟨b, off, none⟩)) ⟨_, rfl, rfl⟩ _ _)
  have hr2 : Row W2 g 34 (lc l) := hr.keep (T2.block g hr.lt (fun ⟨ad, e, e2⟩ => by injection e with e; subst e; exact hgb e2.symm))
  have h3 : (lc l).length = 3 := rfl
  have hcpB : ∀ ty dc, (Builtin.copy_ #[59, 58] ty #[.slice (some ⟨b, off + p * 3, none⟩) (n + 1 - p) dc, .slice (some ⟨g, 0, none⟩) 1 1]).run Try.prog W2 = .ok (goInt 1) (W2.setCells b (off + p * 3) (lc l)) := fun ty dc => by
    have e : Nat.min 1 (n + 1 - p) = 1 := by simp only [Nat.min_def]; split <;> omega
    have := run_copy3 (P := Try.prog) W2 59 58 ty 34 b (off + p * 3) (n + 1 - p) dc ⟨g, 0, none⟩ 1 1 (lc l) Try.underlying59 letter_size (by rw [e]; rfl)
      (fun j v hj => by rw [add_flat, Nat.zero_add]; exact hr2.cell hj)
      (fun j hj => by rw [Nat.add_assoc]; exact (hq2.room _ (by omega)).1) (fun j hj => by rw [Nat.add_assoc]; exact (hq2.room _ (by omega)).2) (lc_one l)
    rw [e] at this
    exact this
  have hq3 : QB (W2.setCells b (off + p * 3) (lc l)) b off (n + 1) d (cutT L p 0 [l]) := by
    have hcl : (cutT L p 0 [l]).length = n + 1 := by rw [cutT_len (by omega)]; simp; omega
    refine hq2.sets (p * 3) _ _ _ (by omega) (by rw [lts_len]; simp; omega) hcl.symm hc ⟨[], ?_⟩
    have e1 : (L.take (p + 1) ++ L.drop p).take p = L.take p := by
      rw [List.take_append_of_le_length (by rw [List.length_take]; omega), List.take_take]
      congr 1
      omega
    have e2 : (L.take (p + 1) ++ L.drop p).drop (p + 1) = L.drop p := List.drop_left' (by rw [List.length_take]; omega)
    rw [lts_take, e1, h3, show p * 3 + 3 = (p + 1) * 3 by omega, lts_drop, e2, List.append_nil]
    unfold cutT
    rw [Nat.add_zero, ← lts_app, ← lts_app, lts_single, List.append_assoc]
  have HF := Lib.hid (show InsPost (some ⟨b, off, none⟩) w (cutT L p 0 [l]) (.returned (.slice (some ⟨b, off, none⟩) (n + 1) d)) (W2.setCells b (off + p * 3) (lc l)) from
    ⟨(some ⟨b, off, none⟩, n + 1, d), rfl, .inr ⟨b, off, n + 1, d, rfl, hq3⟩, T2.trans (Turn.sets (F := Ob (some ⟨b, off, none⟩)) ⟨_, rfl, rfl⟩ _ _)⟩)
  have hov := fun lb cb => ovl_no w g b (off + (p + 1) * 3) hr h.shape hgb lb cb
  have hge : (0 : Int) ≤ (p : Int) := by omega
  have hle' : (p : Int) ≤ (n : Int) := by omega
  have hne : ¬ ((p : Int) = (n : Int)) := by omega
  have hci : ¬ (d = p) := by omega
  have hcip : ¬ (d = p + 1) := by omega
  have htn : ((p : Int) + 1).toNat = p + 1 := by omega
  have htn2 : ((n : Int) + 1).toNat = n + 1 := by omega
  have hb1' : (0 : Int) ≤ (p : Int) + 1 := by omega
  have hb2 : (p : Int) + 1 ≤ (n : Int) + 1 := by omega
  have hcz : (n : Int) + 1 ≤ (d : Int) := by omega
  have hb3 : (p : Int) ≤ (n : Int) + 1 := by omega
  have hpn : p ≤ n + 1 := by omega
  have hc64 : d ≤ 9223372036854775807 := by unfold maxLen at hcm; omega
  have hw1 : IntKind.i64.wrap ((p : Int) + 1) = (p : Int) + 1 := by rw [IntKind.wrap_i64]; omega
  have mixed : Try.prog.follows .mixedOrders = true := by kernel_rfl
  clear h hl hcm hll hdl hW2 hq2 T2 hr2 hq3 hr h3
  go_enter Try.func34, Try.ntmps34
  go_wp2_with (simp only [hov])
  go_region_law_o (refine step_copy_runI rfl _ _ 59 59 rfl (.slice (some ⟨b, off + (p + 1) * 3, none⟩) (n + 1 - (p + 1)) (d - (p + 1))) (.slice (some ⟨b, off + p * 3, none⟩) (n + 1 - p) (d - p)) (by simp [Act.eval, Act.put]) (by simp [Act.eval, Act.put]) (hcpA 3 (d - (p + 1)) (d - p)) ?_)
  go_wp2_with (at_builtin; refine wpList_copy_runI _ rfl _ _ 59 58 rfl _ _ rfl rfl (hcpB _ _) ?_)
  go_ret
  exact HF.out
set_option maxHeartbeats 4000000 in
theorem ins_grow (b off n : Nat) (h : QB w b off n n L) (p : Nat) (hp : p < n) (hn : n ≤ 1000000) (g : Nat) (hr : Row w g 34 (lc l)) :
    Calls Try.prog 34 #[.slice (some ⟨b, off, none⟩) n n, .int .i64 (p : Int), .slice (some ⟨g, 0, none⟩) 1 1] w (InsPost (some ⟨b, off, none⟩) w (cutT L p 0 [l])) := by
  obtain ⟨i0, hi0, hz0, hzs, hzb⟩ := info_parts letter_row
  have hl := h.len
  have hbw := h.lt
  have hvw := hr.lt
  have hll : (lts L).length = n * 3 := by rw [lts_len, hl]
  have hdl : (lts (L.drop p)).length = (n - p) * 3 := by rw [lts_len, List.length_drop, hl]
  have htl : (lts (L.take p)).length = p * 3 := by rw [lts_len, List.length_take]; omega
  have hold : (Builtin.firstCells i0.size p (.slice (some ⟨b, off, none⟩) p n)).run Try.prog w.drew = .ok (lts (L.take p)).toArray w.drew := by
    rw [hzs]
    refine run_firstCells_some w.drew 3 p ⟨b, off, none⟩ p n (lts (L.take p)) htl (fun j v hj => ?_)
    rw [add_flat]
    refine h.reads j v ?_
    rw [← lts_take, List.getElem?_take] at hj
    split at hj
    · exact hj
    · cases hj
  have hik : p + (n + 1 - p) = n + 1 := by omega
  obtain ⟨G, hG⟩ : ∃ G, G = grownCap w (n + 1) n 34 := ⟨_, rfl⟩
  obtain ⟨ROW, hROW⟩ : ∃ ROW : Array Value, ROW = (lts (L.take p)).toArray ++ Builtin.zeroCells zlt.cells (n + 1 - p) ++ Builtin.zeroCells zlt.cells (G - (n + 1)) := ⟨_, rfl⟩
  obtain ⟨W1, hW1⟩ : ∃ W1, W1 = w.drew.alloc (.cells ROW 34) := ⟨_, rfl⟩
  have hrz : ∀ ty, (Builtin.append_ #[59, 3] ty #[.slice (some ⟨b, off, none⟩) p n, .int .i64 (((n + 1 - p : Nat) : Int))]).run Try.prog w = .ok (.slice (some ⟨w.heap.size, 0, none⟩) (n + 1) G) W1 := fun ty => by
    have h := Lib.run_append_grow_zeros w 59 3 ty 34 i0 _ .i64 .i64 Try.underlying59 Try.underlying3 hi0 hz0 (some ⟨b, off, none⟩) p n (lts (L.take p)) hold (n + 1 - p) (by omega) (by omega) (by omega) (by omega) (by rw [hzb]; omega) (by rw [hzb, hik]; exact growslice_fits (by omega) (by omega))
    rw [hik] at h
    rw [h, hW1, hROW, hG]
    rfl
  have hGn : n + 1 ≤ G := by rw [hG]; exact grownCap_ge w _ _ _
  have hG63 : G ≤ maxLen := by rw [hG]; exact grownCap_le_maxLen w (n + 1) n 34 (by unfold maxLen; omega)
  have hzc : ∀ n, (Builtin.zeroCells zlt.cells n).size = n * 3 := fun n => by simp [Builtin.zeroCells, zlt, Value.cells]
  have hRs : ROW.size = G * 3 := by
    rw [hROW, Array.size_append, Array.size_append, hzc, hzc, List.size_toArray, htl]
    omega
  have hR0 : ROW.toList.take (p * 3) = lts (L.take p) := by
    rw [hROW, Array.toList_append, Array.toList_append, List.append_assoc]
    exact List.take_left' htl
  have hN1 : W1.heap[w.heap.size]? = some (.cells ROW 34 (0, 0)) := by rw [hW1]; exact heap_alloc_new w.drew _
  have hk1 : ∀ x, x < w.heap.size → W1.heap[x]? = w.heap[x]? := fun x hx => by rw [hW1]; exact heap_alloc_lt w.drew _ hx
  have hq1 : QB W1 w.heap.size 0 p G (L.take p) := qb_cells hN1 (by rw [List.length_take]; omega) (by omega) hG63 hRs hR0 (by omega)
  have T1 : Turn (Ob (some ⟨b, off, none⟩)) w (Ob (some ⟨w.heap.size, 0, none⟩)) W1 := by
    rw [hW1]
    refine ⟨rfl, rfl, rfl, by simp, fun x hx _ => heap_alloc_lt w.drew _ hx, ?_⟩
    rintro x ⟨ad, e, rfl⟩
    injection e with e
    subst e
    exact .inr (Nat.le_refl _)
  have h3 : (lc l).length = 3 := rfl
  obtain ⟨W2, hW2⟩ : ∃ W2, W2 = W1.setCells w.heap.size (0 + p * 3) (lc l) := ⟨_, rfl⟩
  have hcpA : ∀ ty dc, (Builtin.copy_ #[59, 58] ty #[.slice (some ⟨w.heap.size, p * 3, none⟩) (n + 1 - p) dc, .slice (some ⟨g, 0, none⟩) 1 1]).run Try.prog W1 = .ok (goInt 1) W2 := fun ty dc => by
    have e : Nat.min 1 (n + 1 - p) = 1 := by simp only [Nat.min_def]; split <;> omega
    have := run_copy3 (P := Try.prog) W1 59 58 ty 34 w.heap.size (p * 3) (n + 1 - p) dc ⟨g, 0, none⟩ 1 1 (lc l) Try.underlying59 letter_size (by rw [e]; rfl)
      (fun j v hj => by rw [add_flat, Nat.zero_add, cell_blk (a := ⟨g, j, none⟩) (hk1 g hvw)]; exact hr.cell hj)
      (fun j hj => by have := (hq1.room (p * 3 + j) (by omega)).1; rwa [Nat.zero_add] at this) (fun j hj => by have := (hq1.room (p * 3 + j) (by omega)).2; rwa [Nat.zero_add] at this) (lc_one l)
    rw [e] at this
    rw [this, hW2, Nat.zero_add]
    rfl
  have hq2 : QB W2 w.heap.size 0 (p + 1) G (L.take p ++ [l]) := by
    rw [hW2]
    refine hq1.sets (p * 3) _ _ _ (by omega) (by omega) (by simp; omega) (by omega) ⟨(lts (L.take p)).drop (p * 3 + 3), ?_⟩
    rw [List.take_of_length_le (by omega), ← lts_snoc, h3, List.append_assoc]
  have T2 : Turn (Ob (some ⟨b, off, none⟩)) w (Ob (some ⟨w.heap.size, 0, none⟩)) W2 := by
    rw [hW2]
    exact T1.trans (Turn.sets (F := Ob (some ⟨w.heap.size, 0, none⟩)) ⟨_, rfl, rfl⟩ _ _)
  have hk2 : ∀ x, x < w.heap.size → W2.heap[x]? = w.heap[x]? := fun x hx => by rw [hW2, setCells_heap _ _ _ _ _ (by omega)]; exact hk1 x hx
  obtain ⟨W3, hW3⟩ : ∃ W3, W3 = W2.drew.setCells w.heap.size (0 + (p + 1) * 3) (lts (L.drop p)) := ⟨_, rfl⟩
  have hcpB : ∀ ty dc, (Builtin.copy_ #[59, 59] ty #[.slice (some ⟨w.heap.size, (p + 1) * 3, none⟩) (n + 1 - (p + 1)) dc, .slice (some ⟨b, off + p * 3, none⟩) (n - p) (n - p)]).run Try.prog W2.drew = .ok (goInt ((n - p : Nat) : Int)) W3 := fun ty dc => by
    have e : Nat.min (n - p) (n + 1 - (p + 1)) = n - p := by simp only [Nat.min_def]; split <;> omega
    have := run_copy3 (P := Try.prog) W2.drew 59 59 ty 34 w.heap.size ((p + 1) * 3) (n + 1 - (p + 1)) dc ⟨b, off + p * 3, none⟩ (n - p) (n - p) (lts (L.drop p)) Try.underlying59 letter_size (by rw [e, hdl])
      (fun j v hj => by
        rw [add_flat, Nat.add_assoc]
        refine (cell_blk (w := w) (w' := W2.drew) (a := ⟨b, off + (p * 3 + j), none⟩) (hk2 b hbw)).trans (h.reads _ v ?_)
        rw [← hj, ← lts_drop, List.getElem?_drop])
      (fun j hj => by have := (hq2.drew.room ((p + 1) * 3 + j) (by omega)).1; rwa [Nat.zero_add] at this) (fun j hj => by have := (hq2.drew.room ((p + 1) * 3 + j) (by omega)).2; rwa [Nat.zero_add] at this) (lts_one _)
    rw [e] at this
    rw [this, hW3, Nat.zero_add]
  have hq3 : QB W3 w.heap.size 0 (n + 1) G (cutT L p 0 [l]) := by
    have hcl : (cutT L p 0 [l]).length = n + 1 := by rw [cutT_len (by omega)]; simp; omega
    rw [hW3]
    refine hq2.drew.sets ((p + 1) * 3) _ _ _ (by omega) (by rw [lts_len]; simp; omega) hcl.symm hGn ⟨(lts (L.take p ++ [l])).drop ((p + 1) * 3 + (lts (L.drop p)).length), ?_⟩
    rw [List.take_of_length_le (by rw [lts_len]; simp; omega)]
    unfold cutT
    rw [Nat.add_zero, ← lts_app, List.append_assoc, ← lts_app (L.take p ++ [l])]
    simp [List.append_assoc, ← lts_app]
  have HF := Lib.hid (show InsPost (some ⟨b, off, none⟩) w (cutT L p 0 [l]) (.returned (.slice (some ⟨w.heap.size, 0, none⟩) (n + 1) G)) W3 from
    ⟨(some ⟨w.heap.size, 0, none⟩, n + 1, G), rfl, .inr ⟨w.heap.size, 0, n + 1, G, rfl, hq3⟩, by rw [hW3]; exact (T2.trans (Turn.drewN _ W2 1)).trans (Turn.sets (F := Ob (some ⟨w.heap.size, 0, none⟩)) ⟨_, rfl, rfl⟩ _ _)⟩)
  have hge : (0 : Int) ≤ (p : Int) := by omega
  have hle : (p : Int) ≤ (n : Int) := by omega
  have hne : ¬ ((p : Int) = (n : Int)) := by omega
  have hgt : (n : Int) < (n : Int) + 1 := by omega
  have e1 : (n : Int) + 1 - (p : Int) = ((n + 1 - p : Nat) : Int) := by omega
  have hGi : ¬ (G = p) := by omega
  have hGim : ¬ (G = p + 1) := by omega
  have hci : ¬ (n = p) := by omega
  have htn : ((p : Int) + 1).toNat = p + 1 := by omega
  have hb1 : (0 : Int) ≤ (p : Int) + 1 := by omega
  have hb2 : (p : Int) + 1 ≤ (n : Int) + 1 := by omega
  have hG64 : G ≤ 9223372036854775807 := by unfold maxLen at hG63; omega
  rw [← e1] at hrz
  have hw1 : IntKind.i64.wrap ((p : Int) + 1) = (p : Int) + 1 := by rw [IntKind.wrap_i64]; omega
  have mixed : Try.prog.follows .mixedOrders = true := by kernel_rfl
  clear e1 hgt hz0 hzs hzb hi0 h hr hl hll hdl htl hold hik hG hROW hRs hR0 hN1 hk1 hq1 T1 h3 hW2 hq2 T2 hk2 hW3 hq3 hzc hW1
  go_enter Try.func34, Try.ntmps34
  go_wp2_with (first
    | (at_builtin; refine Lib.wpList_append_run _ rfl _ _ _ _ rfl _ _ rfl rfl _ _ (hrz _) ?_)
    | (at_builtin; refine wpList_copy_runI _ rfl _ _ 59 58 rfl _ _ rfl rfl (hcpA _ _) ?_))
  go_region_law_o (refine step_copy_runI rfl _ _ 59 59 rfl (.slice (some ⟨w.heap.size, (p + 1) * 3, none⟩) (n + 1 - (p + 1)) (G - (p + 1))) (.slice (some ⟨b, off + p * 3, none⟩) (n - p) (n - p)) (by simp [Act.eval, Act.put]) (by simp [Act.eval, Act.put]) (hcpB 3 (G - (p + 1))) ?_)
  go_wp2
  go_ret
  exact HF.out
theorem insert_any (b off n d : Nat) (h : QB w b off n d L) (p : Nat) (hp : p < n) (hn : n ≤ 1000000) (g : Nat) (hr : Row w g 34 (lc l)) (hgb : g ≠ b) :
    Calls Try.prog 34 #[.slice (some ⟨b, off, none⟩) n d, .int .i64 (p : Int), .slice (some ⟨g, 0, none⟩) 1 1] w (InsPost (some ⟨b, off, none⟩) w (cutT L p 0 [l])) := by
  by_cases hroom : n + 1 ≤ d
  · exact ins_room b off n d h p hp hn g hr hgb hroom
  · have e : d = n := by have := h.le; omega
    subst e
    exact ins_grow b off d h p hp hn g hr
end
end Go.Proofs.Ytikbgaomiliefaa.Ro
