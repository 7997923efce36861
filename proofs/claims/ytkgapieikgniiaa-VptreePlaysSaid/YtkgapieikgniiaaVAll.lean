/- What all of a tree returns: its points by their numbers, in a row of the call's own. Conditions: a tree that New gave, in memory. -/
import Derived.Test.YtkgapieikgniiaaVSrtP
import Derived.Test.YtkgapieikgniiaaVRng
set_option linter.unusedVariables false
set_option linter.unusedSimpArgs false
namespace Go.Proofs.Ytkgapieikgniiaa
open Go Go.RowKit Go.Maps
open Go.Sort (HoldsK)
theorem pt_row : (Try.prog.info? 37).map (fun i => (i.zero, i.size, i.bytes)) = some (some (.agg #[.int .i64 0, .slice none 0 0]), 2, 32) := by kernel_rfl
theorem pts_snoc (l : List Pt) (p : Pt) : pts (l ++ [p]) = pts l ++ pcell p := by simp [pts]
theorem pts_len (l : List Pt) : (pts l).length = l.length * 2 := flat_len pcell 2 (fun _ => rfl) l
theorem append_pt {ops : Array Oper} {rest : List Oper} {o : Oper} {a : Act} {Q : Exit → Act → World → Prop} {W : World} (hgd : o.guard = none) (s x : Operand)
    (ho : o.op = .call { callee := .builtin .append, args := #[s, x], argTypes := #[27, 27] })
    (base : Nat) (v : Value) (n : Nat) (l : List Pt) (y : Int) (A : Option Addr) (m c : Nat) (zs : List Int) (hs : a.eval s = v) (hown : W.ownsRow base 37 2 v n (pts l)) (N : Nat) (hN : N = W.heap.size) (hx : a.eval x = .slice (some ⟨N, 0, none⟩) 1 1)
    (hn : n ≤ 1000000000) (hbase : base ≤ W.heap.size)
    (h : ∀ v' w', w'.ownsRow base 37 2 v' (n + 1) (pts (l ++ [(y, (A, m, c), zs)])) → W.grownBy w' v.ownBlock → (v'.ownBlock = v.ownBlock ∨ ∀ k, v'.ownBlock = some k → W.heap.size ≤ k) → wpList Try.prog ops Q rest (a.put o.dst v') w') :
    wpList Try.prog ops Q (o :: rest) a (W.alloc (.cells #[.int .i64 y, .slice A m c] 37)) := by
  subst hN
  obtain ⟨i0, hi, hz0, hz1, hz2⟩ := info_parts pt_row
  refine append_new hgd s x 27 37 37 ho base i0 (.agg #[.int .i64 0, .slice none 0 0]) 2 32 Try.underlying27 hi hz0 hz1 hz2 rfl (by decide) (by decide) v n (pts l) hs hown hx #[.int .i64 y, .slice A m c] rfl (by intro u hu; simp at hu; rcases hu with rfl | rfl <;> rfl) hn hbase (fun v' w' h1 h2 h3 => ?_)
  refine h v' w' ?_ h2 h3
  rw [pts_snoc]
  exact h1
theorem made_pts (w : World) (n : Nat) (hn : n ≤ 600) (cs : Array Value) (base : Nat) (hb : base ≤ w.heap.size) : (w.alloc (.cells (madeCells cs (n * 2)) 37)).ownsRow base 37 2 (.slice (some ⟨w.heap.size, 0, none⟩) 0 n) 0 (pts []) :=
  ⟨rfl, .inr ⟨w.heap.size, n, _, rfl, hb, heap_alloc_new w _, Nat.zero_le _, by unfold maxLen; omega, size_madeCells _ _, by simp [pts]⟩⟩
theorem own_iter {w : World} {base r : Nat} {e : TypeId} {s : Nat} {v : Value} {n : Nat} {xs : List Value} (h : w.ownsRow base e s v n xs) (hr : ∃ x y z t, w.heap[r]? = some (.mapIter x y z t)) : v.ownBlock ≠ some r := by
  intro e
  obtain ⟨x, y, z, t, hr⟩ := hr
  rcases h.2 with ⟨rfl, _⟩ | ⟨g, c1, cur, rfl, _, h3, _⟩
  · cases e
  · injection e with e
    have e : g = r := e
    subst e
    rw [h3] at hr
    cases hr
def bareP (p : Pt) : Pnt := (p.1, p.2.2)
/-- A point's slice. -/
def slcP (p : Pt) : Value := .slice p.2.1.1 p.2.1.2.1 p.2.1.2.2
/-- What stands in the row: these points, each with its vector. -/
structure RowP (w wr : World) (G : Nat → Prop) (s : Nat) (v : Value) (L : List Pt) (X : List Pnt) : Prop where
  own : wr.ownsRow s 37 2 v L.length (pts L)
  form : ∃ g c, v = .slice (some ⟨g, 0, none⟩) L.length c
  perm : (L.map bareP).Perm X
  vec : ∀ p ∈ L, VecIn w G (slcP p) p.2.2
  below : Below s w wr
  le : s ≤ wr.heap.size
theorem RowP.len {w wr : World} {G : Nat → Prop} {s : Nat} {v : Value} {L : List Pt} {X : List Pnt} (h : RowP w wr G s v L X) : L.length = X.length := by
  have := h.perm.length_eq
  rwa [List.length_map] at this
theorem RowP.iter {w wr w' : World} {G : Nat → Prop} {s r : Nat} {v : Value} {L : List Pt} {X : List Pnt} (h : RowP w wr G s v L X) (hg : wr.grownBy w' (some r)) (hr : s ≤ r) (hit : v.ownBlock ≠ some r) : RowP w w' G s v L X :=
  ⟨own_keep h.own (fun g hg' => hg.block g (h.own.lt g hg').2 (fun e => hit (by rw [hg', e]))), h.form, h.perm, h.vec,
   h.below.trans ⟨hg.os, hg.tape, hg.output, by have := hg.size; have := h.le; omega, fun b hb => hg.block b (by have := h.le; omega) (by simp; omega)⟩, Nat.le_trans h.le hg.size⟩
theorem RowP.same {w wr : World} {G : Nat → Prop} {s : Nat} {v : Value} {L : List Pt} {X Y : List Pnt} (h : RowP w wr G s v L X) (hp : X.Perm Y) : RowP w wr G s v L Y := ⟨h.own, h.form, h.perm.trans hp, h.vec, h.below, h.le⟩
theorem RowP.under {w wr w' : World} {G : Nat → Prop} {s : Nat} {v : Value} {L : List Pt} {X : List Pnt} (h : RowP w wr G s v L X) (hb : Below wr.heap.size wr w') : RowP w w' G s v L X :=
  ⟨keep_none h.own hb, h.form, h.perm, h.vec, h.below.trans (hb.mono h.le), Nat.le_trans h.le hb.size⟩
theorem RowP.step {w wr w' : World} {G : Nat → Prop} {s : Nat} {v v' : Value} {L : List Pt} {X : List Pnt} {p : Pt} (h : RowP w wr G s v L X) (ho : w'.ownsRow s 37 2 v' (L.length + 1) (pts (L ++ [p]))) (hg : wr.grownBy w' v.ownBlock) (hv : VecIn w G (slcP p) p.2.2) :
    RowP w w' G s v' (L ++ [p]) (bareP p :: X) := by
  have hlen : (L ++ [p]).length = L.length + 1 := by simp
  refine ⟨by rw [hlen]; exact ho, ?_, ?_, fun q hq => ?_, h.below.trans (below_own h.own hg h.le), Nat.le_trans h.le hg.size⟩
  · obtain ⟨g, cap, hv', _⟩ := ho.form (by omega)
    exact ⟨g, cap, by rw [hlen]; exact hv'⟩
  · rw [List.map_append]
    have e : L.map bareP ++ [p].map bareP = L.map bareP ++ [bareP p] := rfl
    rw [e]
    exact (List.perm_append_comm.trans (by simp : ([bareP p] ++ L.map bareP).Perm (bareP p :: L.map bareP))).trans (h.perm.cons _)
  · rcases List.mem_append.1 hq with hq | hq
    · exact h.vec q hq
    · rw [List.mem_singleton.1 hq]
      exact hv
def AllPost (G : Nat → Prop) (T : List Pnt) (w : World) (e : Ending) (w' : World) : Prop :=
  ∃ (g c : Nat) (d : Array Pt), e = .returned (.slice (some ⟨g, 0, none⟩) d.size c) ∧ d.size ≤ c ∧ c ≤ maxLen ∧ w.heap.size ≤ g ∧ g < w'.heap.size ∧ HoldsK pcell 2 w' g 0 d ∧ d.toList.map bareP = T ∧ (∀ p ∈ d.toList, VecIn w G (slcP p) p.2.2) ∧ Below w.heap.size w w'
theorem rise_unique : ∀ {S T : List Pnt}, S.Pairwise (fun p q => p.1 ≤ q.1) → Rise T → S.Perm T → S = T
  | [], T, _, _, hp => hp.nil_eq
  | p :: S, [], _, _, hp => by simpa using hp.length_eq
  | p :: S, q :: T, hS, hT, hp => by
    obtain ⟨h1, h2⟩ := List.pairwise_cons.1 hS
    obtain ⟨k1, k2⟩ := List.pairwise_cons.1 hT
    have hpq : p = q := by
      rcases List.mem_cons.1 (hp.mem_iff.1 (List.mem_cons_self ..)) with h | h
      · exact h
      · exfalso
        have a := k1 p h
        rcases List.mem_cons.1 (hp.mem_iff.2 (List.mem_cons_self ..)) with e | e
        · rw [e] at a
          omega
        · have := h1 q e
          omega
    subst hpq
    rw [rise_unique h2 k2 (hp.cons_inv)]
theorem sorted_map {d : Array Pt} (h : ∀ i j, i < j → j < d.size → d[i]!.1 ≤ d[j]!.1) : (d.toList.map bareP).Pairwise fun p q => p.1 ≤ q.1 := by
  rw [List.pairwise_map, List.pairwise_iff_getElem]
  intro i j hi hj hij
  have := h i j hij (by simpa using hj)
  rw [getElem!_pos d i (by simpa using hi), getElem!_pos d j (by simpa using hj)] at this
  simpa [bareP] using this
section
variable {w w' : World} {F : Nat → Prop} {t bm fm dim : Nat} {rv : Value} {N : NT} {B U : List Ent}
set_option maxHeartbeats 4000000 in
set_option maxRecDepth 100000 in
theorem vall_any (h : TreeW w F t bm fm dim rv N B U) {T : List Pnt} (hT : T.Perm ((B ++ U).map bare)) (hr : Rise T) :
    Calls Try.prog 30 #[.pointer (some ⟨t, 0, none⟩)] w (AllPost (Core F t bm fm) T w) := by
  have hl := vlen_any h
  have hlen := h.len
  obtain ⟨i0, hi, hz0, hz1, hz2⟩ := info_parts pt_row
  have hmk := fun (w : World) (n : Nat) (hn : n ≤ 512) => run_make (P := Try.prog) w 27 37 i0 (.agg #[.int .i64 0, .slice none 0 0]) Try.underlying27 hi hz0 .i64 .i64 0 (n : Int) (by omega) (by omega) (by rw [hz2]; omega) (by omega)
  obtain ⟨n, hn⟩ : ∃ n, n = B.length + U.length := ⟨_, rfl⟩
  rw [← hn] at hl
  have hn5 : n ≤ 512 := by omega
  have hmk := fun w => hmk w n hn5
  have h00 : Int.toNat 0 = 0 := rfl
  have h01 : Int.toNat (n : Int) = n := Int.toNat_natCast n
  simp only [h00, h01] at hmk
  have HTR := Lib.hid (And.intro hT (And.intro hr hlen))
  have HT := Lib.hid h
  clear h00 h01 hT hr hlen hn h
  generalize hsz : w.heap.size = s at *
  have HSZ := Lib.hid hsz
  clear hsz
  have hix0 : ∀ w, (Instr.index 94 (.agg #[.map (some bm), .map (some fm)]) (.int .i64 0)).run Try.prog w = .ok (.map (some bm)) w := fun w => by kernel_rfl
  have hix1 : ∀ w, (Instr.index 94 (.agg #[.map (some bm), .map (some fm)]) (.int .i64 1)).run Try.prog w = .ok (.map (some fm)) w := fun w => by kernel_rfl
  go_enter Try.func30, Try.ntmps30
  go_wp2_with fail
  refine hl.mono ?_
  rintro e w1 ⟨rfl, q1, rfl⟩
  clear hl
  have hb1 : Below w.heap.size w ((w.drewN q1).alloc (.cells (madeCells #[.int .i64 0, .slice none 0 0] (n * 2)) 37)) := (below_drewN (Below.refl _ w) q1).alloc (Nat.le_refl _) _
  have R1 : RowP w ((w.drewN q1).alloc (.cells (madeCells #[.int .i64 0, .slice none 0 0] (n * 2)) 37)) (Core F t bm fm) s (.slice (some ⟨w.heap.size, 0, none⟩) 0 n) [] [] :=
    ⟨made_pts (w.drewN q1) n (by omega) #[.int .i64 0, .slice none 0 0] s (by rw [← HSZ.out]; exact Nat.le_refl _), ⟨_, _, rfl⟩, List.Perm.refl _, fun p hp => by simp at hp, by rw [← HSZ.out]; exact hb1, by rw [← HSZ.out]; exact hb1.size⟩
  have t1 := HT.out.below hb1
  have c3 := t1.c3
  have c4 := t1.c4
  have tl := t1.tlt
  have HR1 := Lib.hid R1
  clear R1 t1 hb1
  go_wp2_with fail
  go_quiet (fail)
  have HR2 := Lib.hid (HR1.out.under (below_drewN (Below.refl _ _) nq))
  generalize hW2 : ((w.drewN q1).alloc (.cells (madeCells #[.int .i64 0, .slice none 0 0] (n * 2)) 37)).drewN nq = W2 at *
  clear hW2 c3 c4 tl HR1
  go_wp2_with fail
  go_loopw [3, 20] (fun vv vi wr => ∃ (i : Nat) (L : List Pt), i ≤ 2 ∧ vi = .int .i64 i ∧ Hid (RowP w wr (Core F t bm fm) s vv L (if i = 0 then [] else if i = 1 then B.map bare else (B ++ U).map bare))) (fun _ vi _ => 2 - (intOf vi).toNat)
  case atStart => exact ⟨0, [], by omega, rfl, HR2⟩
  case round =>
    obtain ⟨i, L, hi2, rfl, HL⟩ := hrel
    have hi' : i = 0 ∨ i = 1 ∨ i = 2 := by omega
    clear HR2 hi2
    rcases hi' with rfl | rfl | rfl
    · have R3 : RowP w wr (Core F t bm fm) s _ L ([]) := HL.out
      have t3 := HT.out.below (by rw [HSZ.out]; exact R3.below)
      obtain ⟨D, hDo, hD⟩ := t3.mb
      have HDM := Lib.hid hD
      have HR3 := Lib.hid R3
      have hbs : bm < s := by rw [← HSZ.out]; exact HT.out.mb.lt
      have hsr := R3.le
      clear HL t3 hD R3
      obtain ⟨w0, hw0⟩ : ∃ w0, w0 = wr := ⟨_, rfl⟩
      have HW0 := Lib.hid hw0
      clear hw0
      go_wp2_with (first | (at_range; refine wpList_range_own _ rfl _ 64 rfl 3 35 law3 Try.underlying64 hR bm B.length D rfl hDo ?_; intro w4 hrg4 hg4 hs4) | go_in)
      go_frame
      have HR4 := Lib.hid (HR3.out.under ⟨hg4.os, hg4.tape, hg4.output, hg4.size, fun b hb => hg4.block b hb (by simp)⟩)
      have hd0 : doneE B (Maps.has D) = [] := done_start (fun p hp => by rw [HDM.out.has]; exact (isId_iff _ _).2 ⟨p, hp, rfl⟩)
      have HR4' : Hid (RowP w w4 (Core F t bm fm) s u3 L (doneE B (Maps.has D) ++ [])) := Lib.hid (by rw [hd0]; exact HR4.out)
      clear HR3 HR4 hd0 hs4 hg4 hDo
      generalize wr.heap.size = r at *
      go_loopw [3] (fun vv wr' => ∃ (left : Lit → Bool) (cnt : Nat) (L' : List Pt), wr'.ranges Try.prog 3 hR bm r B.length D left cnt ∧ Hid (RowP w wr' (Core F t bm fm) s vv L' (doneE B left ++ [])) ∧ Hid (∀ z, left z = true → Maps.has D z = true)) (fun _ wr' => wr'.rangeLeft bm r)
      case atStart => exact ⟨_, _, L, hrg4, HR4', Lib.hid (fun _ h => h)⟩
      case round =>
        obtain ⟨left, cnt, L', hrg, HRL, HL⟩ := hrel
        clear hrg4 HR4'
        go_wp2_with (at_next; refine wpList_next_ranges _ rfl _ rfl 3 law3 hR (Value.int .i64) id keyInv valInv bm r B.length D left cnt rfl hrg ?_ ?_)
        · intro _ hl0
          have HRE := Lib.hid HRL.out
          rw [done_end hl0] at HRE
          clear hrg hl0 HRL HL
          go_wp2_with fail
          go_roundw
          case rel => exact ⟨0+1, L', by omega, by go_num, Lib.hid (HRE.out.same (List.Perm.of_eq (List.append_nil _)))⟩
          case measure => simp [intOf]
        · intro x c0 kl0 d0 p0 w5 cnt5 hk0 hlk hcv hat hrg5 hlt5 hg5 hs5 hen
          obtain ⟨x', ex, rfl, hwx⟩ := Maps.keyOf_int_inv Try.underlying3 hk0
          injection ex with _ ex
          subst ex
          have hid : isId x B = true := by
            have := HL.out _ hlk
            rw [show (Lit.int IntKind.i64 x) = kl x from rfl, HDM.out.has] at this
            exact this
          obtain ⟨⟨y, u, l⟩, hp, hpx⟩ := (isId_iff _ _).1 hid
          have hpx : y = x := hpx
          subst hpx
          have hcu : u = c0 := by
            have h1 := HDM.out.at_ _ hp (.held (.slice none 0 0))
            have h2 := hat (.held (.slice none 0 0))
            have h3 := h1.symm.trans h2
            have h4 := hR_inj hcv
            exact DataW.held.inj (h3.trans h4)
          subst hcu
          have hvec := HT.out.vec _ (List.mem_append_left U hp)
          obtain ⟨Au, cu, hu, _⟩ := hvec.reads
          change u = .slice Au l.length cu at hu
          subst hu
          have R5 := HRL.out.iter hg5 (by omega) (own_iter HRL.out.own (ranges_iter hrg))
          have hit5 := ranges_iter hrg5
          have hds := done_step (left := left) HT.out.mb.apart hp hlk
          have hle := R5.le
          have hlen5 : L'.length ≤ 1000000000 := by
            rw [R5.len]
            have h1 : (doneE B left).length ≤ B.length := by unfold doneE; rw [List.length_map]; exact List.length_filter_le ..
            have h2 := HT.out.len
            simp
            omega
          have HR5 := Lib.hid R5
          have hown5 := R5.own
          have HM := Lib.hid (And.intro hlt5 (And.intro hrg.left_eq hrg5.left_eq))
          have H5 := Lib.hid (And.intro hrg5 (And.intro hit5 (And.intro hds (And.intro hvec HL.out))))
          clear hid hcv hat hrg5 hit5 hg5 hs5 hlt5 hp hrg hk0 hwx HRL R5 hvec hlk HL hds
          go_wp2_with (at_builtin; refine append_pt rfl (.tmp 30) (.tmp 34) rfl s _ L'.length L' y Au l.length cu l rfl hown5 _ rfl rfl hlen5 hle ?_; intro v6 w6 hown6 hg6 hv6)
          have R6 := HR5.out.step hown6 hg6 H5.out.2.2.2.1
          have hrg6 := ranges_keep (w' := w6) H5.out.1 (hg6.block bm (by omega) (fun e => by have := HR5.out.own.lt bm e.symm; omega)) (hg6.block r (by
            obtain ⟨a1, a2, a3, a4, h5⟩ := H5.out.2.1
            exact (Array.getElem?_eq_some_iff.1 h5).1) (fun e => own_iter HR5.out.own H5.out.2.1 e.symm))
          have HR6 := Lib.hid (R6.same (Y := doneE B (fun z => left z && !z.sameKey (kl y)) ++ []) (by
            refine List.Perm.trans ?_ (H5.out.2.2.1.symm.append_right _)
            exact List.Perm.refl _))
          have HL6 := Lib.hid (show ∀ z, (left z && !z.sameKey (kl y)) = true → Maps.has D z = true from fun z hz => H5.out.2.2.2.2 z (by
            cases hc : left z
            · rw [hc] at hz
              cases hz
            · rfl))
          have HM7 := Lib.hid hrg6.left_eq
          have HRG := Lib.hid hrg6
          clear R6 hrg6 hown6 hg6 hv6 hown5
          go_wp2_with fail
          go_roundw
          case rel =>
            exact ⟨(fun z => left z && !z.sameKey (kl y)), ⟨_, HRG.out⟩, ⟨_, Lib.hid (HR6.out.same (by first | exact List.Perm.refl _ | exact List.Perm.of_eq (List.append_nil _)))⟩, HL6⟩
          case measure =>
            rw [HM7.out, HM.out.2.1]
            exact HM.out.1
    · have R3 : RowP w wr (Core F t bm fm) s _ L (B.map bare) := HL.out
      have t3 := HT.out.below (by rw [HSZ.out]; exact R3.below)
      obtain ⟨D, hDo, hD⟩ := t3.mf
      have HDM := Lib.hid hD
      have HR3 := Lib.hid R3
      have hbs : fm < s := by rw [← HSZ.out]; exact HT.out.mf.lt
      have hsr := R3.le
      clear HL t3 hD R3
      obtain ⟨w0, hw0⟩ : ∃ w0, w0 = wr := ⟨_, rfl⟩
      have HW0 := Lib.hid hw0
      clear hw0
      go_wp2_with (first | (at_range; refine wpList_range_own _ rfl _ 64 rfl 3 35 law3 Try.underlying64 hR fm U.length D rfl hDo ?_; intro w4 hrg4 hg4 hs4) | go_in)
      go_frame
      have HR4 := Lib.hid (HR3.out.under ⟨hg4.os, hg4.tape, hg4.output, hg4.size, fun b hb => hg4.block b hb (by simp)⟩)
      have hd0 : doneE U (Maps.has D) = [] := done_start (fun p hp => by rw [HDM.out.has]; exact (isId_iff _ _).2 ⟨p, hp, rfl⟩)
      have HR4' : Hid (RowP w w4 (Core F t bm fm) s u3 L (doneE U (Maps.has D) ++ B.map bare)) := Lib.hid (by rw [hd0]; exact HR4.out)
      clear HR3 HR4 hd0 hs4 hg4 hDo
      generalize wr.heap.size = r at *
      go_loopw [3] (fun vv wr' => ∃ (left : Lit → Bool) (cnt : Nat) (L' : List Pt), wr'.ranges Try.prog 3 hR fm r U.length D left cnt ∧ Hid (RowP w wr' (Core F t bm fm) s vv L' (doneE U left ++ B.map bare)) ∧ Hid (∀ z, left z = true → Maps.has D z = true)) (fun _ wr' => wr'.rangeLeft fm r)
      case atStart => exact ⟨_, _, L, hrg4, HR4', Lib.hid (fun _ h => h)⟩
      case round =>
        obtain ⟨left, cnt, L', hrg, HRL, HL⟩ := hrel
        clear hrg4 HR4'
        go_wp2_with (at_next; refine wpList_next_ranges _ rfl _ rfl 3 law3 hR (Value.int .i64) id keyInv valInv fm r U.length D left cnt rfl hrg ?_ ?_)
        · intro _ hl0
          have HRE := Lib.hid HRL.out
          rw [done_end hl0] at HRE
          clear hrg hl0 HRL HL
          go_wp2_with fail
          go_roundw
          case rel => exact ⟨1+1, L', by omega, by go_num, Lib.hid (HRE.out.same (by rw [List.map_append]; exact List.perm_append_comm))⟩
          case measure => simp [intOf]
        · intro x c0 kl0 d0 p0 w5 cnt5 hk0 hlk hcv hat hrg5 hlt5 hg5 hs5 hen
          obtain ⟨x', ex, rfl, hwx⟩ := Maps.keyOf_int_inv Try.underlying3 hk0
          injection ex with _ ex
          subst ex
          have hid : isId x U = true := by
            have := HL.out _ hlk
            rw [show (Lit.int IntKind.i64 x) = kl x from rfl, HDM.out.has] at this
            exact this
          obtain ⟨⟨y, u, l⟩, hp, hpx⟩ := (isId_iff _ _).1 hid
          have hpx : y = x := hpx
          subst hpx
          have hcu : u = c0 := by
            have h1 := HDM.out.at_ _ hp (.held (.slice none 0 0))
            have h2 := hat (.held (.slice none 0 0))
            have h3 := h1.symm.trans h2
            have h4 := hR_inj hcv
            exact DataW.held.inj (h3.trans h4)
          subst hcu
          have hvec := HT.out.vec _ (List.mem_append_right B hp)
          obtain ⟨Au, cu, hu, _⟩ := hvec.reads
          change u = .slice Au l.length cu at hu
          subst hu
          have R5 := HRL.out.iter hg5 (by omega) (own_iter HRL.out.own (ranges_iter hrg))
          have hit5 := ranges_iter hrg5
          have hds := done_step (left := left) HT.out.mf.apart hp hlk
          have hle := R5.le
          have hlen5 : L'.length ≤ 1000000000 := by
            rw [R5.len]
            have h1 : (doneE U left).length ≤ U.length := by unfold doneE; rw [List.length_map]; exact List.length_filter_le ..
            have h2 := HT.out.len
            simp
            omega
          have HR5 := Lib.hid R5
          have hown5 := R5.own
          have HM := Lib.hid (And.intro hlt5 (And.intro hrg.left_eq hrg5.left_eq))
          have H5 := Lib.hid (And.intro hrg5 (And.intro hit5 (And.intro hds (And.intro hvec HL.out))))
          clear hid hcv hat hrg5 hit5 hg5 hs5 hlt5 hp hrg hk0 hwx HRL R5 hvec hlk HL hds
          go_wp2_with (at_builtin; refine append_pt rfl (.tmp 30) (.tmp 34) rfl s _ L'.length L' y Au l.length cu l rfl hown5 _ rfl rfl hlen5 hle ?_; intro v6 w6 hown6 hg6 hv6)
          have R6 := HR5.out.step hown6 hg6 H5.out.2.2.2.1
          have hrg6 := ranges_keep (w' := w6) H5.out.1 (hg6.block fm (by omega) (fun e => by have := HR5.out.own.lt fm e.symm; omega)) (hg6.block r (by
            obtain ⟨a1, a2, a3, a4, h5⟩ := H5.out.2.1
            exact (Array.getElem?_eq_some_iff.1 h5).1) (fun e => own_iter HR5.out.own H5.out.2.1 e.symm))
          have HR6 := Lib.hid (R6.same (Y := doneE U (fun z => left z && !z.sameKey (kl y)) ++ B.map bare) (by
            refine List.Perm.trans ?_ (H5.out.2.2.1.symm.append_right _)
            exact List.Perm.refl _))
          have HL6 := Lib.hid (show ∀ z, (left z && !z.sameKey (kl y)) = true → Maps.has D z = true from fun z hz => H5.out.2.2.2.2 z (by
            cases hc : left z
            · rw [hc] at hz
              cases hz
            · rfl))
          have HM7 := Lib.hid hrg6.left_eq
          have HRG := Lib.hid hrg6
          clear R6 hrg6 hown6 hg6 hv6 hown5
          go_wp2_with fail
          go_roundw
          case rel =>
            exact ⟨(fun z => left z && !z.sameKey (kl y)), ⟨_, HRG.out⟩, ⟨_, Lib.hid (HR6.out.same (by first | exact List.Perm.refl _ | exact List.Perm.of_eq (List.append_nil _)))⟩, HL6⟩
          case measure =>
            rw [HM7.out, HM.out.2.1]
            exact HM.out.1
    · have R3 : RowP w wr (Core F t bm fm) s _ L ((B ++ U).map bare) := HL.out
      have hLn : L.length ≤ 512 := by rw [R3.len]; simpa using HTR.out.2.2
      obtain ⟨g, c, rfl⟩ := R3.form
      have hgl := R3.own.lt g rfl
      have hca : L.length ≤ c ∧ c ≤ maxLen := by
        obtain ⟨A, c', e, h1, h2⟩ := own_shape R3.own
        injection e with _ _ e
        subst e
        exact ⟨h1, h2⟩
      have hH : HoldsK pcell 2 wr g 0 L.toArray := holdsK_own (fun _ => rfl) (by have := R3.own; simpa [pts] using this)
      have hsort := sortP_any g 0 c L.toArray wr hH hgl.2 (by simp; omega)
      rw [show L.toArray.size = L.length by simp] at hsort
      have HF := Lib.hid (And.intro R3 (And.intro hgl hca))
      clear HL R3 hgl hca hH
      go_wp2_with fail
      refine hsort.mono ?_
      rintro e w5 ⟨d', hd⟩
      obtain rfl := hd.ret
      have HD := Lib.hid hd
      clear hd hsort
      have hsz : d'.size = L.length := by have := HD.out.size; simpa using this
      have HSIZE := Lib.hid hsz
      clear hsz
      go_wp2_with fail
      go_ret
      have hp : d'.toList.Perm L := by simpa using HD.out.perm
      have R3 := HF.out.1
      refine ⟨g, c, d', by rw [HSIZE.out]; rfl, by rw [HSIZE.out]; exact HF.out.2.2.1, HF.out.2.2.2, by rw [HSZ.out]; exact HF.out.2.1.1, Nat.lt_of_lt_of_le HF.out.2.1.2 HD.out.turn.size, HD.out.holds, ?_, fun p hp' => R3.vec p (hp.mem_iff.1 hp'), ?_⟩
      · exact rise_unique (sorted_map HD.out.rise) HTR.out.2.1 ((hp.map bareP).trans (R3.perm.trans HTR.out.1.symm))
      · rw [HSZ.out]
        exact R3.below.trans (HD.out.turn.down (fun b hb => by rw [hb]; exact HF.out.2.1.1) R3.le)
end
end Go.Proofs.Ytkgapieikgniiaa
