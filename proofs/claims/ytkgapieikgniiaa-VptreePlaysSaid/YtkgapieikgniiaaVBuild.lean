/- What build and maps.Copy return; clear of a map. Conditions: the points' row and the maps lie in memory. -/
import Derived.Test.YtkgapieikgniiaaVAll
import Derived.Test.YtkgapieikgniiaaVSplit
import Derived.Deep.OwnRows
set_option linter.unusedVariables false
set_option linter.unusedSimpArgs false
namespace Go.Proofs.Ytkgapieikgniiaa
open Go Go.RowKit Go.Maps
open Go.Sort (HoldsK)
theorem spot_row : (Try.prog.info? 108).map (fun i => (i.zero, i.size, i.bytes)) = some (some (.agg #[.int .i64 0, .slice none 0 0, .int .i64 0]), 3, 40) := by kernel_rfl
theorem Pt.cells {w : World} {g : Nat} {d : Array Pt} (h : HoldsK pcell 2 w g 0 d) {i : Nat} (hi : i < d.size) {ad : Addr} (had : ad = ⟨g, 0, none⟩) :
    w.cell? (ad.add (i * 2)) = some (.int .i64 d[i]!.1) ∧ w.cell? ⟨(ad.add (i * 2)).block, (ad.add (i * 2)).off + 1, none⟩ = some (slcP d[i]!) := by
  subst had
  have h0 := h.cell (i := i) (c := 0) hi (by omega)
  have h1 := h.cell (i := i) (c := 1) hi (by omega)
  rw [add_flat]
  exact ⟨h0.1, h1.1⟩
structure OkPt (w : World) (G : Nat → Prop) (dim : Nat) (s : Pt) : Prop where
  wf : (Lit.int .i64 s.1).wf = true
  ok : okV s.2.2 = true
  len : s.2.2.length = dim
  vec : VecIn w G (slcP s) s.2.2
theorem get_set (d' : Array Spot) (i : Nat) (x : Spot) (hi : i < d'.size) (j : Nat) : (d'.setIfInBounds i x)[j]! = if i = j then x else d'[j]! := by
  by_cases hij : i = j
  · subst hij
    rw [Go.Sort.getElem!_set_same d' i _ hi, if_pos rfl]
  · rw [if_neg hij]
    by_cases hj : j < d'.size
    · rw [getElem!_pos _ j (by simpa using hj), getElem!_pos d' j hj, Array.getElem_setIfInBounds, if_neg hij]
    · rw [getElem!_neg _ j (by simpa using hj), getElem!_neg d' j hj]
/-- While the points are copied. -/
structure CopyW (w2 wr : World) (g n : Nat) (l : Array Pt) (d' : Array Spot) (i : Nat) : Prop where
  holds : HoldsK scell 3 wr g 0 d'
  size : d'.size = n
  same : ∀ j : Nat, j < i → bareS d'[j]! = bareP l[j]! ∧ slcS d'[j]! = slcP l[j]!
  turn : Turn (fun b => b = g) w2 (fun b => b = g) wr
theorem CopyW.under {w2 wr w' : World} {g n : Nat} {l : Array Pt} {d' : Array Spot} {i : Nat} (h : CopyW w2 wr g n l d' i) (hg : g < wr.heap.size) (hb : Below wr.heap.size wr w') : CopyW w2 w' g n l d' i :=
  ⟨holdsK_block h.holds (hb.block g hg), h.size, h.same, h.turn.trans (Turn.below _ hb)⟩
theorem CopyW.step {w2 wr : World} {g n : Nat} {l : Array Pt} {d' : Array Spot} {i : Nat} (h : CopyW w2 wr g n l d' i) (hi : i < n) :
    CopyW w2 ((wr.setCell ⟨g, 0 + i * 3 + 0, none⟩ (.int .i64 l[i]!.1)).setCell ⟨g, 0 + i * 3 + 1, none⟩ (slcP l[i]!)) g n l
      ((d'.setIfInBounds i (l[i]!.1, d'[i]!.2.1, d'[i]!.2.2.1, d'[i]!.2.2.2)).setIfInBounds i (l[i]!.1, l[i]!.2.1, l[i]!.2.2, d'[i]!.2.2.2)) (i + 1) := by
  have hi' : i < d'.size := by rw [h.size]; exact hi
  have hi2 : i < (d'.setIfInBounds i (l[i]!.1, d'[i]!.2.1, d'[i]!.2.2.1, d'[i]!.2.2.2)).size := by simpa using hi'
  have h1 := holdsK_set h.holds hi' (c0 := 0) (by omega) (l[i]!.1, d'[i]!.2.1, d'[i]!.2.2.1, d'[i]!.2.2.2) (.int .i64 l[i]!.1) rfl (fun c h1 h2 => by
    rcases (show c = 1 ∨ c = 2 by omega) with rfl | rfl <;> rfl)
  have h2 := holdsK_set h1 hi2 (c0 := 1) (by omega) (l[i]!.1, l[i]!.2.1, l[i]!.2.2, d'[i]!.2.2.2) (slcP l[i]!) rfl (fun c h1 h2 => by
    rw [get_set d' i _ hi', if_pos rfl]
    rcases (show c = 0 ∨ c = 2 by omega) with rfl | rfl <;> rfl)
  refine ⟨h2, by simpa using h.size, fun j hj => ?_, (h.turn.trans (Turn.set (fun b => b = g) wr (a := ⟨g, 0 + i * 3 + 0, none⟩) rfl _)).trans (Turn.set (fun b => b = g) _ (a := ⟨g, 0 + i * 3 + 1, none⟩) rfl _)⟩
  rw [get_set _ i _ hi2]
  by_cases hij : i = j
  · subst hij
    rw [if_pos rfl]
    exact ⟨rfl, rfl⟩
  · rw [if_neg hij, get_set d' i _ hi', if_neg hij]
    exact h.same j (by omega)
theorem made_spots (w : World) (n : Nat) : HoldsK scell 3 (w.alloc (.cells (madeCells #[.int .i64 0, .slice none 0 0, .int .i64 0] (n * 3)) 108)) w.heap.size 0 (Array.replicate n (default : Spot)) := by
  refine holdsK_of fun i c hi hc => ?_
  have hi' : i < n := by simpa using hi
  have e : (Array.replicate n (default : Spot))[i]! = default := by rw [getElem!_pos _ i hi]; simp
  rw [e]
  have hb := heap_alloc_new w (.cells (madeCells #[.int .i64 0, .slice none 0 0, .int .i64 0] (n * 3)) 108)
  have hm : (i * 3 + c) % 3 = c := by omega
  have hlt : i * 3 + c < n * 3 := by omega
  refine ⟨?_, ?_⟩
  · simp only [World.cell?, hb]
    rw [show 0 + i * 3 + c = i * 3 + c by omega]
    have e2 : (madeCells #[.int .i64 0, .slice none 0 0, .int .i64 0] (n * 3))[i * 3 + c]? = some ((#[.int .i64 0, .slice none 0 0, .int .i64 0] : Array Value)[c]!) := by
      unfold madeCells
      rw [Array.getElem?_map, Array.getElem?_range, if_pos hlt, Option.map_some]
      show some ((#[.int .i64 0, .slice none 0 0, .int .i64 0] : Array Value)[(i * 3 + c) % 3]!) = _
      rw [hm]
    rw [e2]
    rcases (show c = 0 ∨ c = 1 ∨ c = 2 by omega) with rfl | rfl | rfl <;> rfl
  · simp only [World.frozen?, hb]
    simp
def BuildPost (G : Nat → Prop) (dim : Nat) (l : Array Pt) (w : World) (e : Ending) (w' : World) : Prop :=
  ∃ (p : Option Addr) (N : NT), e = .returned (.pointer p) ∧ N.Good dim ∧ N.ents.Perm (l.toList.map bareP) ∧ NodeAt w' (fun b => G b ∨ w.heap.size ≤ b) (.pointer p) N ∧ Below w.heap.size w w'
set_option maxHeartbeats 4000000 in
set_option maxRecDepth 100000 in
theorem build_any (dim g0 c n : Nat) (l : Array Pt) (w : World) (G : Nat → Prop) (hn : l.size = n) (hn5 : n ≤ 512) (hH : HoldsK pcell 2 w g0 0 l) (hg0 : g0 < w.heap.size) (hok : ∀ p ∈ l.toList, OkPt w G dim p) (hGl : ∀ b, G b → b < w.heap.size) :
    Calls Try.prog 43 #[.slice (some ⟨g0, 0, none⟩) n c] w (BuildPost G dim l w) := by
  obtain ⟨i0, hi, hz0, hz1, hz2⟩ := info_parts spot_row
  have hmk := fun (w : World) => run_make (P := Try.prog) w 106 108 i0 (.agg #[.int .i64 0, .slice none 0 0, .int .i64 0]) Try.underlying106 hi hz0 .i64 .i64 (n : Int) (n : Int) (by omega) (by omega) (by rw [hz2]; omega) (by omega)
  have h01 : Int.toNat (n : Int) = n := Int.toNat_natCast n
  simp only [h01] at hmk
  obtain ⟨W1, hW1⟩ : ∃ W1, W1 = w.alloc (.cells (madeCells #[.int .i64 0, .slice none 0 0, .int .i64 0] (n * 3)) 108) := ⟨_, rfl⟩
  have hb1 : Below w.heap.size w W1 := by rw [hW1]; exact (Below.refl _ w).alloc (Nat.le_refl _) _
  have s1 : W1.heap.size = w.heap.size + 1 := by rw [hW1]; simp
  have hc0 : CopyW W1 W1 w.heap.size n l (Array.replicate n (default : Spot)) 0 := ⟨by rw [hW1]; exact made_spots w n, by simp, fun j hj => absurd hj (by omega), Turn.refl _ _⟩
  have HC := Lib.hid hc0
  have HW := Lib.hid hW1.symm
  have H1 := Lib.hid (And.intro hb1 (And.intro s1 (And.intro hn (And.intro hH (And.intro hg0 (And.intro hok hGl))))))
  clear h01 hc0 hW1 hb1 s1 hn hH hok hGl
  obtain ⟨ad, had⟩ : ∃ ad : Addr, ad = ⟨g0, 0, none⟩ := ⟨_, rfl⟩
  rw [← had]
  have HAD := Lib.hid had
  clear had
  go_enter Try.func43, Try.ntmps43
  go_wp2_with fail
  rw [HW.out]
  obtain ⟨ae, hae⟩ : ∃ ae : Addr, ae = ⟨w.heap.size, 0, none⟩ := ⟨_, rfl⟩
  rw [← hae]
  have HAE := Lib.hid hae
  clear hae HW
  go_loopw [11] (fun vi wr => ∃ (i : Nat) (d' : Array Spot), i ≤ n ∧ vi = .int .i64 i ∧ Hid (CopyW W1 wr w.heap.size n l d' i)) (fun vi _ => n - (intOf vi).toNat)
  case atStart => exact ⟨0, _, by omega, rfl, HC⟩
  case round =>
    obtain ⟨i, d', hi, rfl, HD⟩ := hrel
    clear HC
    have hgl : w.heap.size < wr.heap.size := by have := HD.out.turn.size; have := H1.out.2.1; omega
    by_cases hlt : i < n
    · have hiz : (i : Int) < (n : Int) := by omega
      have hHr : HoldsK pcell 2 wr g0 0 l := holdsK_block H1.out.2.2.2.1 ((HD.out.turn.block g0 (by have := H1.out.2.1; have := H1.out.2.2.2.2.1; omega) (fun e => by have := H1.out.2.2.2.2.1; have e : g0 = w.heap.size := e; omega)).trans (H1.out.1.block g0 H1.out.2.2.2.2.1))
      obtain ⟨x0, x1⟩ := Pt.cells hHr (i := i) (by rw [H1.out.2.2.1]; exact hlt) HAD.out
      obtain ⟨z0, z1, _, _⟩ := Spot.cells HD.out.holds (i := i) (by rw [HD.out.size]; exact hlt) HAE.out
      have f0 : wr.frozen? (ae.add (i * 3)) = false := by
        have := HD.out.holds.cell (i := i) (c := 0) (by rw [HD.out.size]; exact hlt) (by omega)
        rw [HAE.out, add_flat]
        exact this.2
      have f1 : wr.frozen? ⟨(ae.add (i * 3)).block, (ae.add (i * 3)).off + 1, none⟩ = false := by
        have := HD.out.holds.cell (i := i) (c := 1) (by rw [HD.out.size]; exact hlt) (by omega)
        rw [HAE.out, add_flat]
        exact this.2
      have cl : (ad.add (i * 2)).block < wr.heap.size := lt_of_cell x0
      have cz : (ae.add (i * 3)).block < wr.heap.size := lt_of_cell z0
      have hst := (HD.out.under hgl ((Below.refl _ wr).alloc (Nat.le_refl _) (.cells #[.int .i64 l[i]!.1, slcP l[i]!] 37))).step hlt
      have haeb : (⟨w.heap.size, 0 + i * 3 + 0, none⟩ : Addr) = ae.add (i * 3) ∧ (⟨w.heap.size, 0 + i * 3 + 1, none⟩ : Addr) = ⟨(ae.add (i * 3)).block, (ae.add (i * 3)).off + 1, none⟩ := by rw [HAE.out, add_flat]; exact ⟨rfl, rfl⟩
      rw [haeb.1, haeb.2] at hst
      have HST := Lib.hid hst
      clear hst haeb hHr
      unfold slcP slcS at *
      generalize hP : l[i]! = P at *
      generalize hQ : d'[i]! = Q at *
      have HPQ := Lib.hid (And.intro hP hQ)
      clear hP hQ
      obtain ⟨pid, ⟨pA, pn, pc⟩, pv⟩ := P
      obtain ⟨qid, ⟨qA, qn, qc⟩, qv, qf⟩ := Q
      simp only at x0 x1 z0 z1
      have hz1 : ((wr.alloc (.cells #[.int .i64 pid, .slice pA pn pc] 37)).setCell (ae.add (i * 3)) (.int .i64 pid)).cell? ⟨(ae.add (i * 3)).block, (ae.add (i * 3)).off + 1, none⟩ = some (.slice qA qn qc) := by
        rw [World.cell?_setCell_other _ _ _ _ (fun e => by
          have e2 := congrArg Addr.off e
          simp only at e2
          omega), World.cell?_alloc_lt _ _ _ (by exact cz)]
        exact z1
      have hf0 : (wr.alloc (.cells #[.int .i64 pid, .slice pA pn pc] 37)).frozen? (ae.add (i * 3)) = false := (World.frozen?_of_block (heap_alloc_lt wr _ (by exact cz))).trans f0
      have hf1 : (wr.alloc (.cells #[.int .i64 pid, .slice pA pn pc] 37)).frozen? ⟨(ae.add (i * 3)).block, (ae.add (i * 3)).off + 1, none⟩ = false := (World.frozen?_of_block (heap_alloc_lt wr _ (by exact cz))).trans f1
      go_wp2_with fail
      go_roundw
      case rel => exact ⟨i + 1, _, by omega, by go_num, HST⟩
      case measure => simp [intOf]; omega
    · have hiz : ¬ (i : Int) < (n : Int) := by omega
      have him : i = n := by omega
      have hT : Turn (fun b => b = w.heap.size) w (fun b => b = w.heap.size) wr := (Turn.below _ H1.out.1).trans HD.out.turn
      have hGg : ¬ G w.heap.size := fun h => by have := H1.out.2.2.2.2.2.2 _ h; omega
      have hsz := HD.out.size
      have hmap : d'.toList.map bareS = l.toList.map bareP := by
        apply List.ext_getElem
        · have := H1.out.2.2.1
          simp
          omega
        · intro j h1 h2
          have hj : j < n := by simp at h1; omega
          have h3 := (HD.out.same j (by omega)).1
          rw [getElem!_pos d' j (by omega), getElem!_pos l j (by have := H1.out.2.2.1; omega)] at h3
          simpa using h3
      have hsp := split_any dim n (some ae) w.heap.size 0 n d' wr G hsz (Nat.le_refl _) (by omega) (fun _ => by rw [HAE.out]) HD.out.holds hgl (fun s hs => by
        obtain ⟨j, hj, rfl⟩ := List.mem_iff_getElem.1 hs
        have hj' : j < d'.size := by simpa using hj
        have e : d'.toList[j] = d'[j]! := by rw [getElem!_pos d' j hj']; simp
        rw [e]
        have hjn : j < n := by omega
        obtain ⟨h1, h2⟩ := HD.out.same j (by omega)
        have hp := H1.out.2.2.2.2.2.1 l[j]! (by rw [getElem!_pos l j (by have := H1.out.2.2.1; omega)]; simp)
        have e1 : d'[j]!.1 = l[j]!.1 := congrArg (fun z : Pnt => z.1) h1
        have e2 : d'[j]!.2.2.1 = l[j]!.2.2 := congrArg (fun z : Pnt => z.2) h1
        have h0 : OkS w G dim d'[j]! := ⟨by rw [e1]; exact hp.wf, by rw [e2]; exact hp.ok, by rw [e2]; exact hp.len, by rw [h2, e2]; exact hp.vec⟩
        exact h0.turn hT hGg) hGg (fun b hb => Nat.lt_of_lt_of_le (H1.out.2.2.2.2.2.2 b hb) hT.size)
      have HF := Lib.hid (And.intro hT hmap)
      clear hT hGg hmap hsz
      go_wp2_with fail
      refine hsp.mono ?_
      rintro e w5 ⟨p, N, rfl, hgood, hperm, hnode, hT5, _, _⟩
      go_wp2_with fail
      go_ret
      exact ⟨p, N, rfl, hgood, by rw [← HF.out.2]; exact hperm, hnode.more (fun b hb _ => hb.imp id (fun h => Nat.le_trans HF.out.1.size h)), (HF.out.1.trans hT5).down (fun b hb => by rw [hb]; exact Nat.le_refl _) (Nat.le_refl _)⟩
end Go.Proofs.Ytkgapieikgniiaa
