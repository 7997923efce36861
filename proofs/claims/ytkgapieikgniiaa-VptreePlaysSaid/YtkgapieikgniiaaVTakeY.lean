/- What take returns where what was found is near enough. Conditions: what is nearest so far lies in memory. -/
import Derived.Test.YtkgapieikgniiaaVTake
import Derived.Deep.RegionLaw
import Derived.BigRegion
import Derived.Deep.CutRange
set_option linter.unusedVariables false
set_option linter.unusedSimpArgs false
namespace Go.Proofs.Ytkgapieikgniiaa
open Go Go.RowKit Go.Maps
theorem own_cut {w : World} {base : Nat} {e : TypeId} {size m n c : Nat} {A : Option Addr} {xs : List Value} (h : w.ownsRow base e size (.slice A n c) n xs) (hm : m ≤ n) (h0 : 0 < n) : w.ownsRow base e size (.slice A m c) m (xs.take (m * size)) := by
  refine ⟨by rw [List.length_take, h.1]; exact Nat.min_eq_left (Nat.mul_le_mul_right _ hm), ?_⟩
  rcases h.2 with ⟨_, h1⟩ | ⟨g, c1, cur, h1, h2, h3, h4, h5, h6, h7⟩
  · omega
  · injection h1 with h1 _ h1c
    subst h1 h1c
    exact .inr ⟨g, c, cur, rfl, h2, h3, by omega, h5, h6, by rw [← h7, List.take_take, Nat.min_eq_left (Nat.mul_le_mul_right _ hm)]⟩
section
variable {w w' : World} {bb base k : Nat} {lim : Int} {v : Value} {H : List Hit}
theorem NearW.put {v' : Value} {H' : List Hit} (hr : Row w bb 84 [.int .i64 (k : Int), .int .i64 lim, v]) (hup : bb < base) (hbl : base ≤ w.heap.size) (ho : w.ownsRow base 57 2 v' H'.length (hits H')) : NearW (w.setCell ⟨bb, 2, none⟩ v') bb base k lim v' H' :=
  ⟨hr.set 2 v', own_keep ho (fun g hg => heap_set_ne w _ _ (by have := (ho.lt g hg).1; show g ≠ bb; omega)), hup, by simpa using hbl⟩
/-- All that has turned, from w on. -/
theorem take_turn {w2 w3 : World} {cs : Array Value} {T : TypeId} {v v' u1 u2 : Value} (T2 : Turn (Own2 bb v) w (Own2 bb v) w2) (hg : ((w2.alloc (.cells cs T)).drew).grownBy w3 v.ownBlock)
    (hv : v'.ownBlock = v.ownBlock ∨ v'.ownBlock = some ((w2.alloc (.cells cs T)).drew).heap.size) : Turn (Own2 bb v) w (Own2 bb v') (((w3.setCell ⟨bb, 2, none⟩ u1).setCell ⟨bb, 2, none⟩ u2).drew) := by
  have e : ((w2.alloc (.cells cs T)).drew).heap.size = w2.heap.size + 1 := by show (w2.alloc _).heap.size = _; simp
  have h1 := hg.size
  have h2 := T2.size
  have hb : ∀ b, b < w.heap.size → ¬ Own2 bb v b → w3.heap[b]? = w.heap[b]? := fun b hlt hn => by
    rw [hg.block b (by omega) (fun e => hn (.inr e.symm))]
    show (w2.alloc _).heap[b]? = _
    rw [heap_alloc_lt w2 _ (by omega)]
    exact T2.block b hlt hn
  refine ⟨hg.os.trans T2.os, hg.tape.trans T2.tape, hg.output.trans T2.output, ?_, fun b hlt hn => ?_, fun b hF => ?_⟩
  · show w.heap.size ≤ ((w3.setCell ⟨bb, 2, none⟩ u1).setCell ⟨bb, 2, none⟩ u2).heap.size
    rw [World.size_setCell, World.size_setCell]
    omega
  · show ((w3.setCell ⟨bb, 2, none⟩ u1).setCell ⟨bb, 2, none⟩ u2).heap[b]? = _
    rw [heap_set_ne _ ⟨bb, 2, none⟩ _ (fun e => hn (.inl e)), heap_set_ne _ ⟨bb, 2, none⟩ _ (fun e => hn (.inl e))]
    exact hb b hlt hn
  · rcases hF with hF | hF
    · exact .inl (.inl hF)
    · rcases hv with hv | hv
      · exact .inl (.inr (by rw [← hv]; exact hF))
      · rw [hv] at hF
        injection hF with hF
        right
        omega
theorem insH_at' {h : Hit} {H : List Hit} {p : Nat} (hp : p ≤ H.length) (h0 : ∀ t, t < p → hlt h (H.getD t (0, 0)) = false) (h1 : p < H.length → hlt h (H.getD p (0, 0)) = true) : H.take p ++ h :: H.drop p = insH h H := (insH_at hp h0 h1).symm
/-- Behind Insert: all but the row that it may have written. -/
structure Rest (w : World) (hb bp bb k : Nat) (lim : Int) (v : Value) (h : Hit) : Prop where
  hit : Row w hb 57 (hcell h)
  ptr : Row w bp 100 [.pointer (some ⟨bb, 0, none⟩)]
  row : Row w bb 84 [.int .i64 (k : Int), .int .i64 lim, v]
theorem Rest.d2 {hb bp : Nat} {h : Hit} (t : Rest w hb bp bb k lim v h) : w.cell? ⟨bb, 2, none⟩ = some v := t.row.cell rfl
theorem Rest.z2 {hb bp : Nat} {h : Hit} (t : Rest w hb bp bb k lim v h) : w.frozen? ⟨bb, 2, none⟩ = false := t.row.frozen 2
theorem Rest.lt {hb bp : Nat} {h : Hit} (t : Rest w hb bp bb k lim v h) : bb < w.heap.size := t.row.lt
theorem after_ins {w3 : World} {hb bp : Nat} {h : Hit} {cs : Array Value} {T : TypeId} (t : TestW w hb bp bb base k lim v h H) (hg : ((w.alloc (.cells cs T)).drew).grownBy w3 v.ownBlock) (h1 : ∀ g, v.ownBlock = some g → g ≠ hb ∧ g ≠ bp) : Hid (Rest w3 hb bp bb k lim v h) := by
  have hk : ∀ b, b < w.heap.size → some b ≠ v.ownBlock → w3.heap[b]? = w.heap[b]? := fun b hb hne => (hg.block b (by show b < (w.alloc _).heap.size; simp; omega) hne).trans (heap_alloc_lt w _ hb)
  exact Lib.hid ⟨t.hit.keep (hk _ t.hit.lt (fun e => (h1 _ e.symm).1 rfl)), t.ptr.keep (hk _ t.ptr.lt (fun e => (h1 _ e.symm).2 rfl)), t.near.row.keep (hk _ t.near.lt (fun e => by have := (t.near.own.lt _ e.symm).1; have := t.near.up; omega))⟩
/-- Behind Insert, all that is wanted. -/
structure Fin3 (w w3 : World) (hb bp bb base k : Nat) (lim : Int) (v : Value) (h : Hit) (A3 : Option Addr) (n c3 p : Nat) (H : List Hit) : Prop where
  e0 : w3.cell? ⟨bp, 0, none⟩ = some (.pointer (some ⟨bb, 0, none⟩))
  d2 : w3.cell? ⟨bb, 2, none⟩ = some v
  z2 : w3.frozen? ⟨bb, 2, none⟩ = false
  lt : bb < w3.heap.size
  rest : Rest w3 hb bp bb k lim v h
  own : w3.ownsRow base 57 2 (.slice A3 (n + 1) c3) (n + 1) (hits (H.take p ++ h :: H.drop p))
  nc : n + 1 ≤ c3
  cm : c3 ≤ maxLen
  grown : w.grownBy w3 v.ownBlock
  where_ : (Value.slice A3 (n + 1) c3).ownBlock = v.ownBlock ∨ (Value.slice A3 (n + 1) c3).ownBlock = some w.heap.size
set_option maxHeartbeats 4000000 in
set_option maxRecDepth 100000 in
theorem take_yes (t : NearW w bb base k lim v H) (hk1 : 1 ≤ k) (hk : k ≤ 64) (hH : H.length ≤ k) (ho : InOrd H) {h : Hit} (hr : ¬ reachOf k lim H < h.2) :
    Calls Try.prog 37 #[.pointer (some ⟨bb, 0, none⟩), hitV h] w (TakePost bb base k lim v H h w) := by
  have hb0 : Below w.heap.size w ((w.alloc (.cells #[.pointer (some ⟨bb, 0, none⟩)] 100)).alloc (.cells #[.int .i64 h.1, .int .i64 h.2] 57)) := ((Below.refl _ w).alloc (Nat.le_refl _) _).alloc (by simp) _
  have hp0 : Row ((w.alloc (.cells #[.pointer (some ⟨bb, 0, none⟩)] 100)).alloc (.cells #[.int .i64 h.1, .int .i64 h.2] 57)) w.heap.size 100 [.pointer (some ⟨bb, 0, none⟩)] := (Row.new w 100 [.pointer (some ⟨bb, 0, none⟩)]).keep (heap_alloc_lt _ _ (by simp))
  have hh0 : Row ((w.alloc (.cells #[.pointer (some ⟨bb, 0, none⟩)] 100)).alloc (.cells #[.int .i64 h.1, .int .i64 h.2] 57)) (w.heap.size + 1) 57 (hcell h) := by
    have := Row.new (w.alloc (.cells #[.pointer (some ⟨bb, 0, none⟩)] 100)) 57 (hcell h)
    have e : (w.alloc (.cells #[.pointer (some ⟨bb, 0, none⟩)] 100)).heap.size = w.heap.size + 1 := by simp
    rw [e] at this
    exact this
  have hbbs : bb < w.heap.size := t.lt
  have hvs : ∀ g, v.ownBlock = some g → g < w.heap.size := fun g hg => (t.own.lt g hg).2
  unfold hitV
  generalize hW : (w.alloc (.cells #[.pointer (some ⟨bb, 0, none⟩)] 100)).alloc (.cells #[.int .i64 h.1, .int .i64 h.2] 57) = W at *
  generalize hs : w.heap.size = s at *
  have HW := Lib.hid hW
  have HS := Lib.hid hs
  clear hW hs
  have t0 := t.below (by rw [HS.out]; exact hb0)
  have T0 : TestW W (s + 1) s bb base k lim v h H := ⟨hh0, hp0, t0⟩
  have hre := fun q => vreach_any (t0.drewN q) hk1 hk hH
  have z0 := hp0.cell (j := 0) rfl
  have zl := hp0.lt
  have y1 := hh0.cell (j := 1) rfl
  have yl := hh0.lt
  have hb : decide (reachOf k lim H < h.2) = false := decide_eq_false hr
  have HF := Lib.hid (And.intro T0 hb0)
  have HO := Lib.hid (And.intro ho (And.intro hr (And.intro hbbs hvs)))
  have TT : Turn (Own2 bb v) w (Own2 bb v) W := Turn.below _ (by rw [HS.out]; exact hb0)
  have HTT := Lib.hid TT
  clear hr t0 hb0 hp0 hh0 t ho hbbs hvs T0 TT
  go_enter Try.func37, Try.ntmps37
  go_wp2_with fail
  rw [HW.out, HS.out]
  generalize hR : reachOf k lim H = R at *
  have HRE := Lib.hid hR
  clear hR
  go_quiet ((go_at_call 40; refine Calls.quiet_of (hre _)))
  obtain ⟨w1, hw1⟩ : ∃ w1, w1 = W.drewN nq := ⟨_, rfl⟩
  rw [← hw1]
  have hW1 : Below W.heap.size W w1 := by rw [hw1]; exact below_drewN (Below.refl _ W) nq
  have T1 := HF.out.1.below hW1
  have HTT1 := Lib.hid (HTT.out.trans (Turn.below (Own2 bb v) hW1))
  have z0 := T1.ptr.cell (j := 0) rfl
  have zl := T1.ptr.lt
  have y1 := T1.hit.cell (j := 1) rfl
  have yl := T1.hit.lt
  have d2 := T1.near.d2
  have dl := T1.near.lt
  obtain ⟨A, c, hv0, hnc, hcm⟩ := own_shape T1.near.own
  subst hv0
  have hs1 := srch_any T1 HO.out.1 (by omega)
  have HT1 := Lib.hid T1
  clear hw1 hW1 T1 hre
  have hcl : H.length ≤ 64 := by omega
  generalize hn : H.length = n at *
  have HN := Lib.hid hn
  clear hn
  go_wp2_with fail
  refine hs1.mono ?_
  rintro e w2 ⟨p, rfl, hp, hlo, hhi, hb2⟩
  have T2 := HT1.out.below hb2
  have HTT2 := Lib.hid (HTT1.out.trans (Turn.below (Own2 bb (.slice A n c)) hb2))
  have e0 := T2.ptr.cell (j := 0) rfl
  have el := T2.ptr.lt
  have f0 := T2.hit.cell (j := 0) rfl
  have f1 := T2.hit.cell (j := 1) rfl
  have fl := T2.hit.lt
  have d2 := T2.near.d2
  have dl := T2.near.lt
  have HP := Lib.hid (insH_at' (h := h) hp hlo hhi)
  rw [HN.out] at hp
  have hown0 : ((w2.alloc (.cells #[.int .i64 h.1, .int .i64 h.2] 57)).drew).ownsRow base 57 2 (.slice A H.length c) H.length (hits H) := by
    have := T2.near.own
    rw [← HN.out] at this
    exact own_keep this (fun g hg => heap_alloc_lt _ _ (this.lt g hg).2)
  have hrow0 : Row ((w2.alloc (.cells #[.int .i64 h.1, .int .i64 h.2] 57)).drew) w2.heap.size 57 (hcell h) := Row.new w2 57 (hcell h)
  have hins := ins_any ((w2.alloc (.cells #[.int .i64 h.1, .int .i64 h.2] 57)).drew) base A c H h w2.heap.size p hown0 (by have := T2.near.base_le; show base ≤ (w2.alloc _).heap.size; simp; omega) hrow0 (fun ad e => by
    subst e
    have := (T2.near.own.lt ad.block rfl).2
    omega) (by have := HN.out; omega) (by have := HN.out; omega)
  rw [HN.out] at hins
  have HI : Hid (Calls Try.prog 54 #[.slice A n c, .int .i64 (p : Int), .slice (some ⟨w2.heap.size, 0, none⟩) 1 1] ((w2.alloc (.cells #[.int .i64 h.1, .int .i64 h.2] 57)).drew) fun e w3 => ∃ A3 c3, e = .returned (.slice A3 (n + 1) c3) ∧ Fin3 ((w2.alloc (.cells #[.int .i64 h.1, .int .i64 h.2] 57)).drew) w3 (s + 1) s bb base k lim (.slice A n c) h A3 n c3 p H) :=
    Lib.hid (hins.mono (by
      rintro e w3 ⟨v3, rfl, hown3, hg3, hv3⟩
      obtain ⟨A3, c3, rfl, hn3, hc3⟩ := own_shape hown3
      have T3 := (after_ins (w3 := w3) T2 hg3 (fun g hg => by have := HO.out.2.2.2 g hg; have := HS.out; omega)).out
      rw [HN.out] at hown3 hv3 hn3 ⊢
      exact ⟨A3, c3, rfl, T3.ptr.cell (j := 0) rfl, T3.d2, T3.z2, T3.lt, T3, hown3, hn3, hc3, hg3, hv3⟩))
  have HT2 := Lib.hid T2
  clear hb2 hlo hhi hown0 hrow0 hins T2 z0 zl y1 yl hs1
  go_upto_region 3 with fail
  go_cut [17] from 17 (fun s17 wc => ∃ (A3 : Option Addr) (c3 : Nat) (w3 : World), Fin3 ((w2.alloc (.cells #[.int .i64 h.1, .int .i64 h.2] 57)).drew) w3 (s + 1) s bb base k lim (.slice A n c) h A3 n c3 p H ∧ wc = w3.setCell ⟨bb, 2, none⟩ (.slice A3 (n + 1) c3))
  case first =>
    go_region_law (go_simp; go_at_call 54; refine HI.out.mono ?_; rintro e w3 ⟨A3, c3, rfl, hF⟩; have d3 := hF.d2; have z3 := hF.z2; have dl3 := hF.lt; have e3 := hF.e0; have el3 := hF.rest.ptr.lt; have HV3 := Lib.hid hF; clear hF)
    all_goals
      go_wp2_with fail
      go_meet
      exact ⟨_, _, _, HV3.out, rfl⟩
  case rest =>
    obtain ⟨A3, c3, w3, F3, rfl⟩ := hcut
    obtain ⟨W4, hW4⟩ : ∃ W4, W4 = w3.setCell ⟨bb, 2, none⟩ (.slice A3 (n + 1) c3) := ⟨_, rfl⟩
    rw [← hW4]
    have hup := HT2.out.near.up
    have hbl := HT2.out.near.base_le
    have hI : (insH h H).length = n + 1 := by rw [insH_len, HN.out]
    have hown3 : w3.ownsRow base 57 2 (.slice A3 (n + 1) c3) (insH h H).length (hits (insH h H)) := by
      have := F3.own
      rw [HP.out] at this
      rw [hI]
      exact this
    have hs3 : w2.heap.size + 1 ≤ w3.heap.size := by
      have := F3.grown.size
      have e : ((w2.alloc (.cells #[.int .i64 h.1, .int .i64 h.2] 57)).drew).heap.size = w2.heap.size + 1 := by show (w2.alloc _).heap.size = _; simp
      omega
    have n3 : NearW W4 bb base k lim (.slice A3 (n + 1) c3) (insH h H) := by
      rw [hW4]
      exact NearW.put F3.rest.row hup (by omega) hown3
    have T4 : ∀ u2 v', v'.ownBlock = (Value.slice A3 (n + 1) c3).ownBlock → Turn (Own2 bb (.slice A n c)) w (Own2 bb v') ((W4.setCell ⟨bb, 2, none⟩ u2).drew) := fun u2 v' hv' => by
      rw [hW4]
      exact take_turn HTT2.out F3.grown (by rw [hv']; exact F3.where_)
    have p4 : Row W4 s 100 [.pointer (some ⟨bb, 0, none⟩)] := by
      rw [hW4]
      exact F3.rest.ptr.keep (heap_set_ne w3 _ _ (by have := HO.out.2.2.1; have := HS.out; show s ≠ bb; omega))
    have z0 := p4.cell (j := 0) rfl
    have zl := p4.lt
    have d0 := n3.d0
    have d2 := n3.d2
    have f2 := n3.row.frozen 2
    have dl := n3.lt
    have hc3 : c3 ≤ 9223372036854775807 := by have := F3.cm; unfold maxLen at this; omega
    have hnc3 := F3.nc
    have HR := Lib.hid (And.intro n3 T4)
    have HHI := Lib.hid hI
    clear hW4 hup hbl hI hown3 hs3 n3 T4 p4 F3
    have HF := Lib.hid (show TakePost bb base k lim (.slice A n c) H h w (.returned (.tuple #[])) ((W4.setCell ⟨bb, 2, none⟩ (.slice A3 (min (k : Int) ((n : Int) + 1)).toNat c3)).drew) from by
      refine ⟨rfl, .slice A3 (min (k : Int) ((n : Int) + 1)).toNat c3, ?_, HR.out.2 _ _ (by rcases A3 with _ | a <;> rfl)⟩
      rw [if_neg (by rw [HRE.out]; have := HO.out.2.1; omega)]
      have n4 := HR.out.1
      have hm : (min (k : Int) ((n : Int) + 1)).toNat = ((insH h H).take k).length := by rw [List.length_take, HHI.out]; omega
      have ho4 := n4.own
      rw [HHI.out] at ho4
      have ho5 := own_cut ho4 (m := ((insH h H).take k).length) (by rw [List.length_take, HHI.out]; omega) (by omega)
      rw [Nat.mul_comm, hits_take] at ho5
      have e : (insH h H).take ((insH h H).take k).length = (insH h H).take k := by rw [List.length_take, List.take_eq_take_min, Nat.min_assoc, Nat.min_self, ← List.take_eq_take_min]
      rw [e] at ho5
      rw [hm]
      exact (NearW.put n4.row n4.up n4.base_le ho5).drewN 1)
    go_wp2_with fail
    go_region
    go_wp2_with fail
    refine bodyPost_ret (results_none rfl _ _ _) rfl ?_
    exact HF.out
end
end Go.Proofs.Ytkgapieikgniiaa
