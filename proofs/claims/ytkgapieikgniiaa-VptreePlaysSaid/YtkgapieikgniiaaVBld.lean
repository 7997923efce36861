/- What Build of a tree returns: all its points in its nodes. Conditions: a tree that New gave, in memory. -/
import Derived.Test.YtkgapieikgniiaaVBuild
import Derived.Test.YtkgapieikgniiaaVAwk
import Derived.MapFrom
set_option linter.unusedVariables false
set_option linter.unusedSimpArgs false
namespace Go.Proofs.Ytkgapieikgniiaa
open Go Go.RowKit Go.Maps
open Go.Sort (HoldsK)
/-- Those that have been met, with their slices. -/
def metE (U : List Ent) (left : Lit → Bool) : List Ent := U.filter fun p => !left (kl p.1)
theorem met_end {U : List Ent} {left : Lit → Bool} (h : ∀ kl, left kl = false) : metE U left = U := by
  unfold metE
  exact List.filter_eq_self.2 (fun p _ => by rw [h]; rfl)
theorem met_start {U : List Ent} {left : Lit → Bool} (h : ∀ p ∈ U, left (kl p.1) = true) : metE U left = [] := by
  unfold metE
  exact List.filter_eq_nil_iff.2 (fun p hp => by rw [h p hp]; simp)
theorem met_step : ∀ {U : List Ent} {left : Lit → Bool} {p : Ent}, Apart U → p ∈ U → left (kl p.1) = true → (metE U (fun z => left z && !z.sameKey (kl p.1))).Perm (p :: metE U left)
  | [], _, _, _, hp, _ => by simp at hp
  | q :: r, left, p, ha, hp, hl => by
    obtain ⟨h1, h2⟩ := List.pairwise_cons.1 ha
    have hs : ∀ x, (kl x).sameKey (kl p.1) = decide (x = p.1) := fun x => kl_same x p.1
    rcases List.mem_cons.1 hp with rfl | hp
    · have e1 : metE (p :: r) (fun z => left z && !z.sameKey (kl p.1)) = p :: metE r (fun z => left z && !z.sameKey (kl p.1)) := by
        unfold metE
        rw [List.filter_cons, if_pos (by show (!(left (kl p.1) && !(kl p.1).sameKey (kl p.1))) = true; rw [hs]; simp)]
      have e2 : metE (p :: r) left = metE r left := by
        unfold metE
        rw [List.filter_cons, if_neg (by rw [hl]; simp)]
      have e3 : metE r (fun z => left z && !z.sameKey (kl p.1)) = metE r left := by
        unfold metE
        refine List.filter_congr (fun x hx => ?_)
        show (!(left (kl x.1) && !(kl x.1).sameKey (kl p.1))) = !left (kl x.1)
        rw [hs, decide_eq_false (fun e => h1 x hx e.symm)]
        simp
      rw [e1, e2, e3]
    · have hne : q.1 ≠ p.1 := h1 p hp
      have ih := met_step h2 hp hl
      have e0 : (!(left (kl q.1) && !(kl q.1).sameKey (kl p.1))) = !left (kl q.1) := by
        rw [hs, decide_eq_false hne]
        simp
      unfold metE at *
      rw [List.filter_cons, List.filter_cons, e0]
      by_cases hq : (!left (kl q.1)) = true
      · rw [if_pos hq, if_pos hq]
        exact (ih.cons q).trans (List.Perm.swap ..)
      · rw [if_neg hq, if_neg hq]
        exact ih
theorem met_no {B U : List Ent} {left : Lit → Bool} {x : Int} (hl : left (kl x) = true) (hB : isId x B = false) : isId x (metE U left ++ B) = false := by
  rw [Bool.eq_false_iff, Ne, isId_iff]
  rintro ⟨p, hp, e⟩
  rcases List.mem_append.1 hp with hp | hp
  · have := (List.mem_filter.1 hp).2
    rw [e, hl] at this
    cases this
  · exact isId_no hB p hp e
theorem isId_perm {E E' : List Ent} (h : E.Perm E') (x : Int) : isId x E = isId x E' := by
  rw [Bool.eq_iff_iff, isId_iff, isId_iff]
  exact ⟨fun ⟨p, hp, e⟩ => ⟨p, h.mem_iff.1 hp, e⟩, fun ⟨p, hp, e⟩ => ⟨p, h.mem_iff.2 hp, e⟩⟩
theorem turn_iter {F : Nat → Prop} {w wr w' : World} {r : Nat} (h : Turn F w F wr) (hg : wr.grownBy w' (some r)) (hr : w.heap.size ≤ r) : Turn F w F w' :=
  ⟨hg.os.trans h.os, hg.tape.trans h.tape, hg.output.trans h.output, Nat.le_trans h.size hg.size, fun b hb hf => (hg.block b (Nat.lt_of_lt_of_le hb h.size) (by simp; omega)).trans (h.block b hb hf), h.foot⟩
def CopyPost (bm fm : Nat) (B U : List Ent) (w : World) (e : Ending) (w' : World) : Prop :=
  e = .returned (.tuple #[]) ∧ Turn (fun b => b = bm) w (fun b => b = bm) w' ∧ ∃ E, MapAt w' bm E ∧ E.Perm (U ++ B)
set_option maxHeartbeats 4000000 in
set_option maxRecDepth 100000 in
theorem mcopy_any {w : World} {bm fm : Nat} {B U : List Ent} (hB : MapAt w bm B) (hU : MapAt w fm U) (hne : bm ≠ fm) (hap : ∀ p ∈ B, ∀ q ∈ U, p.1 ≠ q.1) (hwf : ∀ p ∈ U, (Lit.int .i64 p.1).wf = true) (hlen : B.length + U.length ≤ 512) :
    Calls Try.prog 44 #[.map (some bm), .map (some fm)] w (CopyPost bm fm B U w) := by
  have hfl := hU.lt
  have hbl := hB.lt
  obtain ⟨D, hDo, hD⟩ := hU
  have HDM := Lib.hid hD
  have HB := Lib.hid (And.intro hB (And.intro hne (And.intro hap (And.intro hwf hlen))))
  clear hB hD hne hap hwf hlen
  go_enter Try.func44, Try.ntmps44
  go_wp2_with (first | (at_range; refine wpList_range_own _ rfl _ 64 rfl 3 35 law3 Try.underlying64 hR fm U.length D rfl hDo ?_; intro w4 hrg4 hg4 hs4) | go_in)
  go_frame
  have hb4 : Below w.heap.size w w4 := ⟨hg4.os, hg4.tape, hg4.output, hg4.size, fun b hb => hg4.block b hb (by simp)⟩
  have hd0 : metE U (Maps.has D) = [] := met_start (fun p hp => by rw [HDM.out.has]; exact (isId_iff _ _).2 ⟨p, hp, rfl⟩)
  have HST := Lib.hid (show Turn (fun b => b = bm) w (fun b => b = bm) w4 ∧ ∃ E, MapAt w4 bm E ∧ E.Perm (metE U (Maps.has D) ++ B) from ⟨Turn.below _ hb4, B, HB.out.1.keep (hb4.block bm hbl), by rw [hd0]; exact List.Perm.refl _⟩)
  clear hb4 hd0 hs4 hg4 hDo
  have hrr : w.heap.size ≤ w.heap.size := Nat.le_refl _
  obtain ⟨r, hr⟩ : ∃ r, r = w.heap.size := ⟨_, rfl⟩
  rw [← hr] at hrg4 ⊢
  have HR := Lib.hid hr
  clear hr hrr
  go_loopw [4] (fun _ wr => ∃ (left : Lit → Bool) (cnt : Nat), wr.ranges Try.prog 3 hR fm r U.length D left cnt ∧ Hid (Turn (fun b => b = bm) w (fun b => b = bm) wr ∧ ∃ E, MapAt wr bm E ∧ E.Perm (metE U left ++ B)) ∧ Hid (∀ z, left z = true → Maps.has D z = true)) (fun _ wr => wr.rangeLeft fm r)
  case atStart => exact ⟨_, _, hrg4, HST, Lib.hid (fun _ h => h)⟩
  case round =>
    obtain ⟨left, cnt, hrg, HRL, HL⟩ := hrel
    clear hrg4 HST
    go_wp2_with (at_next; refine wpList_next_ranges _ rfl _ rfl 3 law3 hR (Value.int .i64) id keyInv valInv fm r U.length D left cnt rfl hrg ?_ ?_)
    · intro _ hl0
      have HRE := Lib.hid HRL.out
      rw [met_end hl0] at HRE
      clear hrg hl0 HRL HL
      go_wp2_with fail
      first
        | go_end0
        | (refine bodyPost_ret (results_none rfl _ _ _) rfl ?_)
      exact ⟨rfl, HRE.out.1, HRE.out.2⟩
    · intro x c0 kl0 d0 p0 w5 cnt5 hk0 hlk hcv hat hrg5 hlt5 hg5 hs5 hen
      obtain ⟨x', ex, rfl, hwx⟩ := Maps.keyOf_int_inv Try.underlying3 hk0
      injection ex with _ ex
      subst ex
      have hid : isId x U = true := by
        have := HL.out _ hlk
        rw [show (Lit.int IntKind.i64 x) = kl x from rfl, HDM.out.has] at this
        exact this
      obtain ⟨⟨y, u, l⟩, hp, hpx⟩ := (isId_iff _ _).1 hid
      have hpx : y = x := hpx
      subst hpx
      have hcu : u = c0 := by
        have h1 := HDM.out.at_ _ hp (.held (.slice none 0 0))
        have h2 := hat (.held (.slice none 0 0))
        have h3 := h1.symm.trans h2
        have h4 := hR_inj hcv
        exact DataW.held.inj (h3.trans h4)
      subst hcu
      obtain ⟨hT, E, hE, hEp⟩ := HRL.out
      have hbr : bm ≠ r := by have := HR.out; omega
      have hfr : fm ≠ r := by have := HR.out; omega
      have hE5 : MapAt w5 bm E := hE.keep (hg5.block bm hE.lt (by simpa using hbr))
      have hT5 := turn_iter hT hg5 (by rw [HR.out]; exact Nat.le_refl _)
      have hno : isId y E = false := by
        rw [isId_perm hEp]
        refine met_no hlk ?_
        rw [Bool.eq_false_iff, Ne, isId_iff]
        rintro ⟨q, hq, e⟩
        exact HB.out.2.2.1 q hq _ hp e
      have hEl : E.length ≤ 1000 := by
        rw [hEp.length_eq, List.length_append]
        have h1 : (metE U left).length ≤ U.length := List.length_filter_le ..
        have := HB.out.2.2.2.2
        omega
      have hds := met_step (left := left) HDM.out.apart hp hlk
      have hwy : (Lit.int .i64 y).wf = true := HB.out.2.2.2.1 _ hp
      have hit5 := ranges_iter hrg5
      have HM := Lib.hid (And.intro hlt5 (And.intro hrg.left_eq hrg5.left_eq))
      have H5 := Lib.hid (And.intro hrg5 (And.intro hit5 (And.intro hds (And.intro hT5 (And.intro hEp (And.intro HL.out (And.intro hbr hfr)))))))
      clear hid hcv hat hrg5 hit5 hg5 hs5 hlt5 hp hrg hk0 hwx HRL hlk HL hds hT hE hEp hT5 hbr hfr
      go_wp2_with (first | (refine wpList_ins rfl (.tmp 13) (.tmp 14) (.tmp 15) rfl bm E y _ l rfl hE5 hEl rfl rfl hwy hno ?_; intro w6 hE6 hg6) | go_in)
      have hrg6 := ranges_keep (w' := w6) H5.out.1 (hg6.block fm (by
          obtain ⟨es, clock, since, seen, c0, h1, _⟩ := H5.out.1
          exact (Array.getElem?_eq_some_iff.1 h1).1) (by have := HB.out.2.1; simp; omega)) (hg6.block r (by
          obtain ⟨a1, a2, a3, a4, h5⟩ := H5.out.2.1
          exact (Array.getElem?_eq_some_iff.1 h5).1) (by have := H5.out.2.2.2.2.2.2.1; simp; omega))
      have hT6 : Turn (fun b => b = bm) w (fun b => b = bm) w6 := H5.out.2.2.2.1.trans ⟨hg6.os, hg6.tape, hg6.output, hg6.size, fun b hb hf => hg6.block b hb (by simpa using hf), fun b hb => .inl hb⟩
      have HR6 := Lib.hid (show Turn (fun b => b = bm) w (fun b => b = bm) w6 ∧ ∃ E, MapAt w6 bm E ∧ E.Perm (metE U (fun z => left z && !z.sameKey (kl y)) ++ B) from
        ⟨hT6, _, hE6, ((H5.out.2.2.2.2.1.cons (y, u, l)).trans (H5.out.2.2.1.symm.append_right B))⟩)
      have HL6 := Lib.hid (show ∀ z, (left z && !z.sameKey (kl y)) = true → Maps.has D z = true from fun z hz => H5.out.2.2.2.2.2.1 z (by
        cases hc : left z
        · rw [hc] at hz
          cases hz
        · rfl))
      have HM7 := Lib.hid hrg6.left_eq
      have HRG := Lib.hid hrg6
      clear hrg6 hT6 hE6 hg6 hE5
      go_wp2_with fail
      go_roundw
      case rel => first | exact ⟨_, _, HRG.out, HR6, HL6⟩ | exact ⟨_, ⟨_, HRG.out⟩, HR6, HL6⟩
      case measure =>
        rw [HM7.out, HM.out.2.1]
        exact HM.out.1
theorem clear_run {w : World} {b : Nat} {E : List Ent} (h : MapAt w b E) : ∃ w', (∀ ty : TypeId, (Builtin.clear_ #[64] ty #[.map (some b)]).run Try.prog w = .ok (.tuple #[]) w') ∧ MapAt w' b [] ∧ w.grownBy w' (some b) := by
  obtain ⟨D, ⟨es, clock, hb, F, hs, hD⟩, hDE⟩ := h
  refine ⟨{ w with heap := w.heap.setIfInBounds b (.map #[] clock) }, ?_, ?_, ?_⟩
  · intro ty
    simp [Builtin.clear_, run_underlying Try.underlying64, Go.MapKept.run_getObj_map hb, Go.MapKept.run_setObj_map _ hb, Result.andThen]
  · exact ⟨.map [], ⟨#[], clock, (Go.MapKept.heap_set hb).1, ⟨by simp, Go.MapKept.stamped_empty clock, by simp⟩, Nat.le_refl _, rfl⟩, MapIs.nil⟩
  · exact ⟨rfl, rfl, rfl, by simp, fun k hk hne => (Go.MapKept.heap_set hb).2 k (by simpa using hne)⟩
section
variable {w w' : World} {F : Nat → Prop} {t bm fm dim : Nat} {rv : Value} {N : NT} {B U : List Ent}
/-- A tree whose nodes were built anew, once its maps hold what they must. -/
theorem TreeW.rebuilt (h : TreeW w F t bm fm dim rv N B U) {T : List Pnt} (hT : T.Perm ((B ++ U).map bare)) (hr : Rise T) {w3 w6 : World} {p : Option Addr} {N' : NT} {E : List Ent}
    (hgood : N'.Good dim) (hperm : N'.ents.Perm T) (hnode : NodeAt w3 (fun b => Core F t bm fm b ∨ w.heap.size ≤ b) (.pointer p) N') (hb3 : Below w.heap.size w w3)
    (hk : ∀ b, b < w3.heap.size → b ≠ t → b ≠ bm → b ≠ fm → w6.heap[b]? = w3.heap[b]?) (hs : w3.heap.size ≤ w6.heap.size)
    (hbox : Row w6 t 66 [.pointer (some ⟨t, 0, none⟩), .int .i64 (dim : Int), .pointer p, .map (some bm), .map (some fm)]) (hmb : MapAt w6 bm E) (hmf : MapAt w6 fm []) (hE : E.Perm (U ++ B)) :
    TreeW w6 (fun b => F b ∨ (w.heap.size ≤ b ∧ b < w6.heap.size)) t bm fm dim (.pointer p) N' E [] := by
  have hmem : ∀ q ∈ E, q ∈ B ++ U := fun q hq => by
    rcases List.mem_append.1 (hE.mem_iff.1 hq) with h1 | h1
    · exact List.mem_append_right _ h1
    · exact List.mem_append_left _ h1
  have hct : ∀ b, w.heap.size ≤ b → b ≠ t ∧ b ≠ bm ∧ b ≠ fm := fun b hb => ⟨fun e => by have := h.lt t h.ft; omega, fun e => by have := h.lt bm h.fb; omega, fun e => by have := h.lt fm h.ff; omega⟩
  have hold : ∀ b, Core F t bm fm b → b < w.heap.size → w6.heap[b]? = w.heap[b]? := fun b hb hlt => (hk b (Nat.lt_of_lt_of_le hlt hb3.size) hb.2.1 hb.2.2.1 hb.2.2.2).trans (hb3.block b hlt)
  have hsz : w.heap.size ≤ w6.heap.size := Nat.le_trans hb3.size hs
  have hmore : ∀ b, Core F t bm fm b → b < w6.heap.size → Core (fun b => F b ∨ (w.heap.size ≤ b ∧ b < w6.heap.size)) t bm fm b := fun b hb _ => ⟨.inl hb.1, hb.2⟩
  refine ⟨hbox, hmb, hmf, h.dim1, h.dim2, fun q hq => h.ok q (hmem q (by simpa using hq)), fun q hq => ((h.vec q (hmem q (by simpa using hq))).keep hold hsz).more hmore, fun q _ r hr' => by simp at hr', ?_, hgood, ?_, fun q hq => ?_, ?_, h.e1, h.e2, h.e3, .inl h.ft, .inl h.fb, .inl h.ff, fun b hb => ?_⟩
  · refine (hnode.keep (w' := w6) (fun b hb hlt => ?_) hs).more (fun b hb hlt => ?_)
    · rcases hb with hb | hb
      · exact hk b hlt hb.2.1 hb.2.2.1 hb.2.2.2
      · obtain ⟨h1, h2, h3⟩ := hct b hb
        exact hk b hlt h1 h2 h3
    · rcases hb with hb | hb
      · exact hmore b hb hlt
      · exact ⟨.inr ⟨hb, hlt⟩, hct b hb⟩
  · refine List.Pairwise.imp (fun h => h) ((hperm.pairwise_iff (fun h e => h e.symm)).2 (hr.imp (fun h e => by omega)))
  · refine hperm.mem_iff.2 (hT.mem_iff.2 ?_)
    exact List.mem_map_of_mem (hmem q hq)
  · rw [hE.length_eq]
    have := h.len
    simp
    omega
  · rcases hb with hb | hb
    · have := h.lt b hb
      omega
    · exact hb.2
def BldPost (F : Nat → Prop) (t dim : Nat) (T : List Pnt) (w : World) (e : Ending) (w' : World) : Prop := e = .returned (.int .i64 0) ∧ ∃ F', Tree w' F' t dim T ∧ Turn F w F' w'
set_option maxHeartbeats 4000000 in
set_option maxRecDepth 100000 in
theorem vbuild_any (h : TreeW w F t bm fm dim rv N B U) {T : List Pnt} (hT : T.Perm ((B ++ U).map bare)) (hr : Rise T) :
    Calls Try.prog 22 #[.pointer (some ⟨t, 0, none⟩)] w (BldPost F t dim T w) := by
  have hg := vgiven_any h
  have hall := fun q => vall_any (h.drewN q) hT hr
  have HT := Lib.hid (And.intro h (And.intro hT hr))
  clear h hT hr
  go_enter Try.func22, Try.ntmps22
  go_wp2_with fail
  refine hg.mono ?_
  rintro e w1 ⟨rfl, q, rfl⟩
  clear hg
  go_wp2_with fail
  refine (hall q).mono ?_
  rintro e w2 ⟨g, c, d, rfl, hdc, hcm, hwg, hgl, hH, hdT, hvec, hb⟩
  have hb2 : Below w.heap.size w w2 := (below_drewN (Below.refl _ w) q).trans hb
  have h2 := HT.out.1.below hb2
  have hlen : d.size ≤ 512 := by
    have h1 := congrArg List.length hdT
    have h2 := HT.out.2.1.length_eq
    have h3 := HT.out.1.len
    simp at h1 h2
    omega
  have hbld := build_any dim g c d.size d w2 (Core F t bm fm) rfl hlen hH hgl (fun p hp => by
    have hm : bareP p ∈ T := by rw [← hdT]; exact List.mem_map_of_mem hp
    obtain ⟨r, hr, e⟩ := List.mem_map.1 (HT.out.2.1.mem_iff.1 hm)
    have hok := HT.out.1.ok r hr
    have e1 : r.1 = p.1 := congrArg (fun z : Pnt => z.1) e
    have e2 : r.2.2 = p.2.2 := congrArg (fun z : Pnt => z.2) e
    exact ⟨by rw [← e1]; exact hok.1, by rw [← e2]; exact hok.2.1, by rw [← e2]; exact hok.2.2, (hvec p hp).keep (w' := w2) (fun b _ hlt => hb.block b hlt) hb.size⟩) (fun b hb' => Nat.lt_of_lt_of_le (HT.out.1.lt b hb'.1) hb2.size)
  have H2 := Lib.hid (And.intro hb2 (And.intro h2 hdT))
  clear hall hdT hvec hb hH hb2 h2
  go_wp2_with fail
  refine hbld.mono ?_
  rintro e w3 ⟨p, N', rfl, hgood, hperm, hnode, hb3⟩
  have hb3w := H2.out.1.trans (hb3.mono H2.out.1.size)
  have h3 := HT.out.1.below hb3w
  have c2 := h3.c2
  have f2 := h3.row.frozen 2
  have tl := h3.tlt
  have H3 := Lib.hid (And.intro hgood (And.intro hperm (And.intro (hnode.more (G' := fun b => Core F t bm fm b ∨ w.heap.size ≤ b) (fun b hb _ => hb.imp id (fun h => Nat.le_trans H2.out.1.size h))) (And.intro hb3w h3))))
  clear hgood hperm hnode hb3 hb3w h3 hbld
  go_wp2_with fail
  obtain ⟨W4, hW4⟩ : ∃ W4, W4 = w3.setCell ⟨t, 2, none⟩ (.pointer p) := ⟨_, rfl⟩
  have row4 : Row W4 t 66 [.pointer (some ⟨t, 0, none⟩), .int .i64 (dim : Int), .pointer p, .map (some bm), .map (some fm)] := by rw [hW4]; exact H3.out.2.2.2.2.row.set 2 _
  have s4 : W4.heap.size = w3.heap.size := by rw [hW4]; simp
  have k4 : ∀ b, b ≠ t → W4.heap[b]? = w3.heap[b]? := fun b hb => by rw [hW4]; exact heap_set_ne _ _ _ hb
  have mb4 : MapAt W4 bm B := H3.out.2.2.2.2.mb.keep (k4 bm (Ne.symm HT.out.1.e1))
  have mf4 : MapAt W4 fm U := H3.out.2.2.2.2.mf.keep (k4 fm (Ne.symm HT.out.1.e2))
  have o4 : W4.os = w3.os ∧ W4.tape = w3.tape ∧ W4.output = w3.output := by rw [hW4]; exact ⟨rfl, rfl, rfl⟩
  have hcp := mcopy_any (w := W4.drew) (B := B) (U := U) mb4 mf4 HT.out.1.e3 HT.out.1.apart (fun p hp => (HT.out.1.ok p (List.mem_append_right B hp)).1) HT.out.1.len
  have z3 := row4.cell (j := 3) rfl
  have z4 := row4.cell (j := 4) rfl
  have zl := row4.lt
  have H4 := Lib.hid (And.intro row4 (And.intro s4 (And.intro k4 (And.intro mf4 o4))))
  have HW4 := Lib.hid hW4.symm
  clear row4 s4 k4 mb4 mf4 hW4 c2 f2 tl o4
  rw [HW4.out]
  go_still_tail 8, (by kernel_rfl)
  change wpList _ _ _ _ _ W4.drew
  go_wp2_with (go_at_call 44; refine hcp.mono ?_; rintro e w5 ⟨rfl, hT5, E, hE, hEp⟩; have row5 : Row w5 t 66 [.pointer (some ⟨t, 0, none⟩), .int .i64 (dim : Int), .pointer p, .map (some bm), .map (some fm)] := H4.out.1.keep (hT5.block t H4.out.1.lt HT.out.1.e1); obtain ⟨w6, hrun, hmf6, hg6⟩ := clear_run (H4.out.2.2.2.1.keep (hT5.block fm H4.out.2.2.2.1.lt (Ne.symm HT.out.1.e3))); have y4 := row5.cell (j := 4) rfl; have yl5 := row5.lt; have H5 := Lib.hid (And.intro hT5 (And.intro hE (And.intro hEp (And.intro row5 (And.intro hmf6 hg6))))); clear hT5 hE hEp row5 hmf6 hg6)
  go_ret
  obtain ⟨hT5, hE, hEp, row5, hmf6, hg6⟩ := H5.out
  obtain ⟨row4, s4, k4, mf4, o4⟩ := H4.out
  obtain ⟨hgood, hperm, hnode, hb3w, h3⟩ := H3.out
  have e1 := HT.out.1.e1
  have e2 := HT.out.1.e2
  have e3 := HT.out.1.e3
  have hk6 : ∀ b, b < w3.heap.size → b ≠ t → b ≠ bm → b ≠ fm → w6.heap[b]? = w3.heap[b]? := fun b hb h1 h2 h3 =>
    ((hg6.block b (Nat.lt_of_lt_of_le (by show b < W4.heap.size; omega) hT5.size) (by simpa using h3)).trans (hT5.block b (by show b < W4.heap.size; omega) h2)).trans (k4 b h1)
  have hs6 : w3.heap.size ≤ w6.heap.size := by
    have := hT5.size
    have := hg6.size
    have e : W4.drew.heap.size = W4.heap.size := rfl
    omega
  have row6 : Row w6 t 66 [.pointer (some ⟨t, 0, none⟩), .int .i64 (dim : Int), .pointer p, .map (some bm), .map (some fm)] := row5.keep (hg6.block t row5.lt (by simpa using e2))
  have hE6 : MapAt w6 bm E := hE.keep (hg6.block bm hE.lt (by simpa using e3))
  have hnew := HT.out.1.rebuilt HT.out.2.1 HT.out.2.2 hgood (by rw [← H2.out.2.2]; exact hperm) hnode hb3w hk6 hs6 row6 hE6 hmf6 hEp
  refine ⟨rfl, _, ⟨⟨bm, fm, _, _, _, _, hnew, ?_⟩, HT.out.2.2⟩, ?_⟩
  · rw [List.append_nil]
    refine HT.out.2.1.trans ((List.Perm.map bare ?_))
    exact List.perm_append_comm.trans hEp.symm
  · refine ⟨?_, ?_, ?_, Nat.le_trans hb3w.size hs6, fun b hb hf => ?_, fun b hb => hb.imp id (fun h => h.1)⟩
    · exact hg6.os.trans (hT5.os.trans (o4.1.trans hb3w.os))
    · exact hg6.tape.trans (hT5.tape.trans (o4.2.1.trans hb3w.tape))
    · exact hg6.output.trans (hT5.output.trans (o4.2.2.trans hb3w.output))
    · rw [hk6 b (Nat.lt_of_lt_of_le hb hb3w.size) (fun e => hf (e ▸ HT.out.1.ft)) (fun e => hf (e ▸ HT.out.1.fb)) (fun e => hf (e ▸ HT.out.1.ff))]
      exact hb3w.block b hb
end
theorem t_build {w : World} {F : Nat → Prop} {t dim : Nat} {T : List Pnt} (h : Tree w F t dim T) : Calls Try.prog 22 #[.pointer (some ⟨t, 0, none⟩)] w (BldPost F t dim T w) := by
  obtain ⟨⟨bm, fm, rv, N, B, U, hm, hp⟩, hr⟩ := h
  exact vbuild_any hm hp hr
end Go.Proofs.Ytkgapieikgniiaa
