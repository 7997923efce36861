/- What Tick of a wheel does. Conditions: a wheel in memory. -/
import Derived.Test.YtfojempmgonahaaWhSet
import Derived.Test.YtfojempmgonahaaKeys
import Derived.StillTailTactics
set_option linter.unusedVariables false
set_option linter.unusedSimpArgs false
set_option maxRecDepth 100000
namespace Go.Proofs.Ytfojempmgonahaa.Wh
open Go Go.RowKit Go.Maps Go.Sort Go.Shelf Go.Proofs
/-- slices.Sort's two contracts, at the fence that asks nothing. -/
theorem sortsA (m : Nat) : AnyZI.SortsIn Try.prog Try.sortedA_ren Fence.wide m :=
  ⟨fun blk off cap ss W hH hblk hsz => callsIn_wide.2 (AnyM.slices_Sort_int Try.sortA blk off cap ss W hH hblk hsz),
   fun p cap W => callsIn_wide.2 (AnyM.slices_Sort_int_none Try.sortA p cap W)⟩
theorem keys_perm {w : World} {b n : Nat} {D : Dat} {E : List Ent} (ho : w.ownsMap Try.prog 3 hR b n D) (hD : MapIs D E) : (E.map Prod.fst).Perm (intKeys D) := by
  obtain ⟨es, hDe, hpw, _⟩ := ho.entries law3
  obtain ⟨es', hD', hko⟩ := ho.keysOf
  obtain rfl : es = es' := by rw [hDe] at hD'; simpa using hD'
  subst hDe
  refine perm_intKeys hpw (fun p hp => by obtain ⟨v, hv⟩ := hko p hp; obtain ⟨x, _, hx, _⟩ := Maps.keyOf_i64 Try.underlying3 hv; exact ⟨x, hx⟩) ?_ (fun x => ?_)
  · exact List.pairwise_map.2 hD.apart
  · have h := hD.has x
    rw [show Lit.int .i64 x = kl x from rfl, h, isId_iff, List.mem_map]
theorem sort_rise {l ss : List Int} (hp : ss.Perm l) (hr : l.Pairwise (fun x y => x < y)) : ss.mergeSort (fun x y => decide (x ≤ y)) = l := by
  have tr : ∀ a b c : Int, leI a b = true → leI b c = true → leI a c = true := fun a b c h1 h2 => by simp only [leI, decide_eq_true_eq] at *; exact Int.le_trans h1 h2
  have to : ∀ a b : Int, (leI a b || leI b a) = true := fun a b => by simp only [leI, Bool.or_eq_true, decide_eq_true_eq]; exact Int.le_total a b
  refine List.Perm.eq_of_pairwise (le := fun a b => leI a b = true) (fun a b _ _ h1 h2 => ?_) (List.pairwise_mergeSort tr to ss) (hr.imp fun {a b} h => by simp only [leI, decide_eq_true_eq]; omega) ((List.mergeSort_perm ss leI).trans hp)
  simp only [leI, decide_eq_true_eq] at h1 h2
  exact Int.le_antisymm h1 h2
theorem skeys_any (mb : Option Nat) (W : World) : Calls Try.prog 26 #[.map mb] W fun e w' => e = .returned (.func (.func 29) #[] #[.pointer (some ⟨W.heap.size, 0, none⟩)]) ∧ w' = W.alloc (.cells #[.map mb] 64) :=
  (callsIn_wide (n := 5)).1 (AnyZI.keys_in Try.keysA Fence.wide 5 trivial rfl mb W)
/-- What slices.Sorted of a map's keys is to return. -/
def SortedPost (B : Nat) (l : List Int) (W : World) (e : Ending) (w' : World) : Prop := ∃ A c, e = .returned (.slice A l.length c) ∧ w'.ownsRow B 3 1 (.slice A l.length c) l.length (ints l) ∧ Below B W w'
theorem sorted_map {w : World} {b : Nat} {E : List Ent} (h : MapAt w b E) (hr : (E.map Prod.fst).Pairwise (fun x y => x < y)) (hl : E.length ≤ 1000000) :
    Calls Try.prog 25 #[.func (.func 29) #[] #[.pointer (some ⟨w.heap.size, 0, none⟩)]] (w.alloc (.cells #[.map (some b)] 64)) (SortedPost (w.heap.size + 1) (E.map Prod.fst) (w.alloc (.cells #[.map (some b)] 64))) := by
  obtain ⟨D0, hown, hD⟩ := h
  have hbl := hown.lt
  have hseq : SeqGives Fence.wide 2 Try.prog 29 #[.pointer (some ⟨w.heap.size, 0, none⟩)] encZ (fun ss => ss.Perm (intKeys D0)) (Maps.size D0) (w.alloc (.cells #[.map (some b)] 64)) :=
    AnyZI.keys_gives (ρ := Try.keysA_ren) { Try.keysA with } Fence.wide _ trivial rfl (by omega) w.heap.size b E.length D0 (R := hR) _ (by simp) (by simp) (by
      obtain ⟨es, clock, hb, Ft, hs, hD⟩ := hown
      exact ⟨es, clock, (Below.heap_alloc _ _ b hbl).trans hb, Ft, hs, hD⟩)
  have cS := AnyZI.sorted_in Try.sortedA Fence.wide 5 trivial trivial trivial trivial rfl (by omega) (sortsA _) (enters_of Try.func28 (by kernel_rfl) rfl) 29 #[.pointer (some ⟨w.heap.size, 0, none⟩)] trivial (enters_of Try.func29 (by kernel_rfl) rfl) _ _ (by rw [hD.size]; unfold maxLen; omega) (by rw [hD.size]; omega) _ hseq
  change CallsIn _ _ Try.prog 25 _ _ _ at cS
  refine ((callsIn_wide (n := 5)).1 cS).mono ?_
  rintro e w' ⟨v, ss, rfl, hS, hrow, hnil, hb⟩
  have hpm : ss.Perm (E.map Prod.fst) := hS.trans (keys_perm hown hD).symm
  have he := sort_rise hpm hr
  rw [he] at hrow
  have hlen : ss.length = (E.map Prod.fst).length := hpm.length_eq
  rw [hlen] at hrow
  have hrow : w'.ownsRow (w.heap.size + 1) 3 1 v (E.map Prod.fst).length (ints (E.map Prod.fst)) := by
    rw [World.size_alloc] at hrow
    exact hrow
  obtain ⟨A, c, rfl, _, _⟩ := own_shape hrow
  exact ⟨A, c, rfl, hrow, by simpa using hb⟩
theorem sorted_nil (w : World) :
    Calls Try.prog 25 #[.func (.func 29) #[] #[.pointer (some ⟨w.heap.size, 0, none⟩)]] (w.alloc (.cells #[.map none] 64)) (SortedPost (w.heap.size + 1) [] (w.alloc (.cells #[.map none] 64))) := by
  have hseq : SeqGives Fence.wide 2 Try.prog 29 #[.pointer (some ⟨w.heap.size, 0, none⟩)] encZ (fun ss : List Int => ss = []) 0 (w.alloc (.cells #[.map none] 64)) :=
    AnyZI.keys_gives_nil (ρ := Try.keysA_ren) { Try.keysA with } Fence.wide _ trivial rfl w.heap.size _ (by simp) (by simp)
  have cS := AnyZI.sorted_in Try.sortedA Fence.wide 5 trivial trivial trivial trivial rfl (by omega) (sortsA _) (enters_of Try.func28 (by kernel_rfl) rfl) 29 #[.pointer (some ⟨w.heap.size, 0, none⟩)] trivial (enters_of Try.func29 (by kernel_rfl) rfl) _ 0 (Nat.zero_le _) (by omega) _ hseq
  change CallsIn _ _ Try.prog 25 _ _ _ at cS
  refine ((callsIn_wide (n := 5)).1 cS).mono ?_
  rintro e w' ⟨v, ss, rfl, rfl, hrow, hnil, hb⟩
  obtain rfl : v = .slice none 0 0 := hnil.2 rfl
  exact ⟨none, 0, rfl, World.ownsRow_nil .., by simpa using hb⟩
def dels (xs : List Int) (E : List Ent) : List Ent := xs.foldl (fun E x => noId x E) E
theorem dels_filter : ∀ (xs : List Int) (E : List Ent), dels xs E = E.filter fun p => decide (p.1 ∉ xs)
  | [], E => by
    unfold dels
    simp
    exact (List.filter_eq_self.2 (fun _ _ => rfl)).symm
  | x :: r, E => by
    have h := dels_filter r (noId x E)
    unfold dels at h ⊢
    rw [List.foldl_cons, h]
    unfold noId
    rw [List.filter_filter]
    refine List.filter_congr fun p _ => ?_
    by_cases h1 : p.1 = x <;> by_cases h2 : p.1 ∈ r <;> simp [h1, h2]
theorem dels_step (xs : List Int) (E : List Ent) {k : Nat} (hk : k < xs.length) : noId (xs.getD k 0) (dels (xs.take k) E) = dels (xs.take (k + 1)) E := by
  have h : xs.take (k + 1) = xs.take k ++ [xs.getD k 0] := by
    rw [List.take_add_one, List.getElem?_eq_getElem hk, List.getD_eq_getElem?_getD, List.getElem?_eq_getElem hk]
    rfl
  rw [h]
  unfold dels
  rw [List.foldl_append]
  rfl
/-- The timers that do not run out at a tick. -/
def rest (t : Int) (L : List Tm) : List Tm := L.filter fun p => decide (p.2 ≠ t)
def outs (t : Int) (L : List Tm) : List Int := (at_ t L).map Prod.fst
section
variable {w w' : World} {p bm dm : Nat} {now : Int} {L : List Tm} {G : List (Int × Nat)}
theorem outs_rise (h : Mid w p bm dm now L G) (t : Int) : (outs t L).Pairwise fun x y => x < y := List.pairwise_map.2 (h.rise.filter _)
theorem dels_ends (h : Mid w p bm dm now L G) (t : Int) : dels (outs t L) (endsE L) = endsE (rest t L) := by
  rw [dels_filter]
  unfold endsE rest
  rw [List.filter_map]
  congr 1
  refine List.filter_congr fun x hx => ?_
  show decide (x.1 ∉ outs t L) = decide (x.2 ≠ t)
  refine decide_eq_decide.2 ⟨fun h1 h2 => h1 (List.mem_map.2 ⟨x, mem_at.2 ⟨hx, h2⟩, rfl⟩), fun h1 h2 => ?_⟩
  obtain ⟨y, hy, e⟩ := List.mem_map.1 h2
  obtain ⟨a, b⟩ := mem_at.1 hy
  rw [h.one a hx e] at b
  exact h1 b
theorem mem_rest {t : Int} {x : Tm} : x ∈ rest t L ↔ x ∈ L ∧ x.2 ≠ t := by simp [rest]
theorem at_rest {t u : Int} (hu : u ≠ t) : at_ u (rest t L) = at_ u L := by
  unfold at_ rest
  rw [List.filter_filter]
  refine List.filter_congr fun q hq => ?_
  by_cases hq : q.2 = u
  · simp [hq, hu]
  · simp [hq]
theorem tick_end (h : WheelW w p bm dm now L G) (r : Row w' p 53 [.pointer (some ⟨p, 0, none⟩), .int .i64 (now + 1), .map (some bm), .map (some dm)])
    (m1 : MapAt w' bm (dels (outs (now + 1) L) (endsE L))) (m2 : MapAt w' dm (noId (now + 1) (dueE G))) (ks : ∀ q ∈ G, w'.heap[q.2]? = w.heap[q.2]?) :
    WheelW w' p bm dm (now + 1) (rest (now + 1) L) (noTick (now + 1) G) := by
  rw [dels_ends h.toMid] at m1
  rw [noId_due] at m2
  refine ⟨⟨r, m1, m2, fun q hq => ?_, fun x hx => ?_, fun q hq u hu => h.gap q (noTick_mem.1 hq).1 u (noTick_mem.1 hu).1, fun q hq => h.out q (noTick_mem.1 hq).1, h.e1, h.e2, h.e3, h.rise.filter _, fun x hx => ?_, by have := h.now0; omega, Nat.le_trans (List.length_filter_le _ _) h.len⟩, fun q hq => ?_⟩
  · obtain ⟨a, b⟩ := noTick_mem.1 hq
    have := (h.sets q a).keep (ks q a)
    unfold setE
    rw [at_rest b]
    exact this
  · obtain ⟨a, b⟩ := mem_rest.1 hx
    obtain ⟨q, hq, e⟩ := h.all x a
    exact ⟨q, noTick_mem.2 ⟨hq, by rw [e]; exact b⟩, e⟩
  · obtain ⟨a, b⟩ := mem_rest.1 hx
    have := h.wf x a
    exact ⟨this.1, by omega, by omega⟩
  · obtain ⟨a, b⟩ := noTick_mem.1 hq
    rw [at_rest b]
    exact h.ne q a
/-- How Tick is to end. -/
def TickPost (p bm dm : Nat) (now : Int) (L : List Tm) (G : List (Int × Nat)) (w : World) (e : Ending) (w' : World) : Prop :=
  ∃ A c G', e = .returned (.slice A (outs (now + 1) L).length c) ∧ Reads w' w'.heap.size 1 A (outs (now + 1) L).length (ints (outs (now + 1) L)) ∧ (∀ ad, A = some ad → w.heap.size ≤ ad.block) ∧ (outs (now + 1) L).length ≤ c ∧ c ≤ maxLen ∧
    WheelW w' p bm dm (now + 1) (rest (now + 1) L) G' ∧ (∀ q, q ∈ G' → q ∈ G) ∧ Turn (Foot p bm dm G) w (Foot p bm dm G') w'
set_option maxHeartbeats 4000000 in
theorem tick_any (h : WheelW w p bm dm now L G) (hn : now ≤ 1000000) :
    Calls Try.prog 18 #[.pointer (some ⟨p, 0, none⟩)] w (TickPost p bm dm now L G w) := by
  have HG := Lib.hid (show Calls _ _ _ _ _ from given_any h.row)
  have c1 := h.c1
  have z1 := h.z 1
  have hl := h.row.lt
  have h0 := h.now0
  have hwr : IntKind.i64.wrap (now + 1) = now + 1 := by rw [IntKind.wrap_i64]; omega
  have hwt : (Lit.int .i64 (now + 1)).wf = true := wf_tick (by omega) (by omega)
  obtain ⟨W1, hW1⟩ : ∃ W1, W1 = w.setCell ⟨p, 1, none⟩ (.int .i64 (now + 1)) := ⟨_, rfl⟩
  obtain ⟨W2, hW2⟩ : ∃ W2, W2 = W1.drew := ⟨_, rfl⟩
  have r2 : Row W2 p 53 [.pointer (some ⟨p, 0, none⟩), .int .i64 (now + 1), .map (some bm), .map (some dm)] := by
    rw [hW2, hW1]
    exact h.row.set 1 (.int .i64 (now + 1))
  have keep2 : ∀ b, b ≠ p → W2.heap[b]? = w.heap[b]? := fun b hb => by rw [hW2, hW1]; exact heap_set_ne w _ _ hb
  have s2 : W2.heap.size = w.heap.size := by rw [hW2, hW1]; simp [World.drew]
  have T2 : Turn (Foot p bm dm G) w (Foot p bm dm G) W2 := by
    rw [hW2, hW1]
    exact (Turn.set (Foot p bm dm G) w (a := ⟨p, 1, none⟩) (.inl rfl) _).trans (Turn.drewN _ _ 1)
  have md := h.due.keep (keep2 dm (Ne.symm h.e2))
  have me := h.ends.keep (keep2 bm (Ne.symm h.e1))
  -- what the look-up gives, and what slices.Sorted does with it
  have HX : ∃ mb : Option Nat, (Instr.lookup 51 (.map (some dm)) (.int .i64 (now + 1)) false).run Try.prog W2 = .ok (.map mb) W2 ∧
      Calls Try.prog 25 #[.func (.func 29) #[] #[.pointer (some ⟨W2.heap.size, 0, none⟩)]] (W2.alloc (.cells #[.map mb] 64)) (SortedPost (W2.heap.size + 1) (outs (now + 1) L) (W2.alloc (.cells #[.map mb] 64))) := by
    have kd := md.look1 uD (zeroM W2) hwt
    by_cases hs : ∃ s, (now + 1, s) ∈ G
    · obtain ⟨s, hs⟩ := hs
      rw [h.val_due hs] at kd
      refine ⟨some s, kd, ?_⟩
      have ms := (h.sets _ hs).keep (keep2 s (h.out _ hs).1)
      have e : (setE (now + 1) L).map Prod.fst = outs (now + 1) L := by
        unfold setE outs
        rw [List.map_map]
        rfl
      have := sorted_map ms (by rw [e]; exact outs_rise h.toMid _) (by have := h.len; have := List.length_filter_le (fun p : Tm => decide (p.2 = now + 1)) L; simp only [setE, at_, List.length_map]; omega)
      rw [e] at this
      exact this
    · have hno : isId (now + 1) (dueE G) = false := by
        rw [Bool.eq_false_iff, Ne, isId_iff]
        rintro ⟨q, hq, he⟩
        obtain ⟨r, hr, rfl⟩ := List.mem_map.1 hq
        exact hs ⟨r.2, by rw [← he]; exact hr⟩
      rw [valOf_no hno] at kd
      have e : outs (now + 1) L = [] := by
        unfold outs
        rw [List.map_eq_nil_iff, List.eq_nil_iff_forall_not_mem]
        intro y hy
        obtain ⟨a, b⟩ := mem_at.1 hy
        obtain ⟨q, hq, hqe⟩ := h.all y a
        exact hs ⟨q.2, by rw [← b, ← hqe]; exact hq⟩
      rw [e]
      exact ⟨none, kd, sorted_nil W2⟩
  obtain ⟨mb, hlook, hsort⟩ := HX
  have HK := Lib.hid (skeys_any mb W2)
  have d1 : W2.cell? ⟨p, 1, none⟩ = some (.int .i64 (now + 1)) := r2.cell rfl
  have d3 : W2.cell? ⟨p, 3, none⟩ = some (.map (some dm)) := r2.cell rfl
  have dl := r2.lt
  have hol : (outs (now + 1) L).length ≤ 4096 := by
    have := h.len
    have := List.length_filter_le (fun p : Tm => decide (p.2 = now + 1)) L
    simp only [outs, at_, List.length_map]
    omega
  -- behind Sorted
  have A3 := Lib.hid (fun w3 (hb : Below (W2.heap.size + 1) (W2.alloc (.cells #[.map mb] 64)) w3) => show w3.cell? ⟨p, 1, none⟩ = some (.int .i64 (now + 1)) ∧ w3.cell? ⟨p, 3, none⟩ = some (.map (some dm)) ∧ p < w3.heap.size ∧ MapAt w3 dm (dueE G) ∧ MapAt w3 bm (endsE L) ∧ Row w3 p 53 [.pointer (some ⟨p, 0, none⟩), .int .i64 (now + 1), .map (some bm), .map (some dm)] ∧ Turn (Foot p bm dm G) w (Foot p bm dm G) w3 from by
      have hb2 : Below W2.heap.size W2 w3 := ((Below.refl _ W2).alloc (Nat.le_refl _) _).trans (hb.mono (by omega))
      have r3 := r2.keep (hb2.block p r2.lt)
      exact ⟨r3.cell rfl, r3.cell rfl, r3.lt, md.keep (hb2.block dm md.lt), me.keep (hb2.block bm me.lt), r3, T2.trans (Turn.below _ hb2)⟩)
  have H := Lib.hid h
  have HN := Lib.hid (And.intro keep2 s2)
  have HW1 := Lib.hid hW1
  have HW2 := Lib.hid hW2
  obtain ⟨out, hout⟩ : ∃ out, outs (now + 1) L = out := ⟨_, rfl⟩
  have HO := Lib.hid hout
  rw [hout] at hsort hol
  obtain ⟨n, hn'⟩ : ∃ n, out.length = n := ⟨_, rfl⟩
  unfold SortedPost at hsort
  rw [hn'] at hsort
  have HS := Lib.hid hsort
  have HNN := Lib.hid hn'
  have HE := Lib.hid (fun k (hk : k < n) => dels_step out (endsE L) (k := k) (by omega))
  have HWF := Lib.hid (fun k (hk : k < n) => show (Lit.int .i64 (out.getD k 0)).wf = true from by
    have hm : out.getD k 0 ∈ out := by
      rw [List.getD_eq_getElem?_getD, List.getElem?_eq_getElem (by omega)]
      exact List.getElem_mem _
    rw [← hout] at hm
    obtain ⟨y, hy, e⟩ := List.mem_map.1 hm
    rw [hout] at e
    rw [← e]
    exact (h.wf y (mem_at.1 hy).1).1)
  rw [hn'] at hol
  clear h r2 keep2 s2 T2 md me hsort hW1 hW2 hout hn'
  go_enter Try.func18, Try.ntmps18
  go_wp2_with fail
  refine HG.out.mono ?_
  rintro e w' ⟨rfl, rfl⟩
  go_wp2_with fail
  rw [← HW1.out]
  clear c1 z1 hl
  refine wp_region_still_tail 9 (by kernel_rfl) (by kernel_rfl) ?_
  simp only [List.take_succ_cons, List.take_zero, List.drop_succ_cons, List.drop_zero]
  change wpStill _ _ W1.drew (fun a' => wpList _ _ _ _ a' W1.drew) _ _
  rw [← HW2.out]
  repeat still_step
  refine wpStill_nil ?_
  go_wp2_with (first
    | (go_at_call 26; refine (HK.out).mono ?_; rintro e w' ⟨rfl, rfl⟩)
    | (go_at_call 25; refine (HS.out).mono ?_; rintro e w3 ⟨A, c, rfl, hown3, hb3⟩))
  obtain ⟨f1, f3, fl, fd, fe, fr, fT⟩ := A3.out w3 hb3
  obtain ⟨w4, hw4⟩ : ∃ w4, w4 = w3.drew := ⟨_, rfl⟩
  have k4 : ∀ b : Nat, w4.heap[b]? = w3.heap[b]? := fun b => by rw [hw4]; rfl
  have s4 : w4.heap.size = w3.heap.size := by rw [hw4]; rfl
  have hown4 : w4.ownsRow (W2.heap.size + 1) 3 1 (.slice A n c) n (ints out) := own_keep hown3 (fun g _ => k4 g)
  have r4 := fr.keep (k4 p)
  have e1 : w4.cell? ⟨p, 1, none⟩ = some (.int .i64 (now + 1)) := r4.cell rfl
  have e3 : w4.cell? ⟨p, 3, none⟩ = some (.map (some dm)) := r4.cell rfl
  have el := r4.lt
  have md4 := fd.keep (k4 dm)
  have me4 := fe.keep (k4 bm)
  have T4 : Turn (Foot p bm dm G) w (Foot p bm dm G) w4 := by rw [hw4]; exact fT.trans (Turn.drewN _ _ 1)
  have hpb := H.out.e1
  have hpd := H.out.e2
  have hbd := H.out.e3
  have hlo : ∀ b, Foot p bm dm G b → b < W2.heap.size := fun b hb => by rw [HN.out.2]; exact H.out.lt b hb
  have FB : Foot p bm dm G bm := .inr (.inl rfl)
  have FD : Foot p bm dm G dm := .inr (.inr (.inl rfl))
  have HSET := Lib.hid (fun q (hq : q ∈ G) => show w4.heap[q.2]? = w.heap[q.2]? from by
    have hF : Foot p bm dm G q.2 := .inr (.inr (.inr ⟨q, hq, rfl⟩))
    have hb2 : Below W2.heap.size W2 w3 := ((Below.refl _ W2).alloc (Nat.le_refl _) _).trans (hb3.mono (by omega))
    exact ((k4 _).trans (hb2.block _ (hlo _ hF))).trans (HN.out.1 _ (H.out.out q hq).1))
  have A5 := Lib.hid (fun w5 (m5 : MapAt w5 dm (noId (now + 1) (dueE G))) (g5 : w4.grownBy w5 (some dm)) => show MapAt w5 bm (endsE L) ∧ Row w5 p 53 [.pointer (some ⟨p, 0, none⟩), .int .i64 (now + 1), .map (some bm), .map (some dm)] ∧ w5.ownsRow (W2.heap.size + 1) 3 1 (.slice A n c) n (ints out) ∧ Turn (Foot p bm dm G) w (Foot p bm dm G) w5 from
    ⟨me4.keep (g5.block bm me4.lt (fun e => by injection e with e; exact hbd e)), r4.keep (g5.block p r4.lt (fun e => by injection e with e; exact hpd e)),
     own_keep hown4 (fun g hg => g5.block g (hown4.lt g hg).2 (fun e => by injection e with e; have := (hown4.lt g hg).1; have := hlo dm FD; omega)), T4.trans (grown_turn g5 FD)⟩)
  have HMD := Lib.hid md4
  have HHW := Lib.hid hw4
  have HLO := Lib.hid (And.intro hlo (And.intro hpb (And.intro hpd hbd)))
  clear hown3 hb3 f1 f3 fl fd fe fr fT k4 s4 hown4 r4 md4 me4 T4 hpb hpd hbd hlo FB FD hw4 d1 d3 dl hlook
  refine wp_region_still_tail 8 (by kernel_rfl) (by kernel_rfl) ?_
  simp only [List.take_succ_cons, List.take_zero, List.drop_succ_cons, List.drop_zero]
  change wpStill _ _ w3.drew (fun a' => wpList _ _ _ _ a' w3.drew) _ _
  rw [← HHW.out]
  repeat still_step
  refine wpStill_nil ?_
  go_wp2_with (first
    | (at_delete; refine wpList_del 51 uD rfl _ _ rfl dm (dueE G) (now + 1) rfl HMD.out rfl hwt ?_; intro w5 m5 g5; have M5 := Lib.hid (And.intro m5 (And.intro g5 (A5.out w5 m5 g5))); clear m5 g5 e1 e3 el))
  have hL : ∀ wr, w5.grownBy wr (some bm) → Hid (wr.cell? ⟨p, 2, none⟩ = some (.map (some bm)) ∧ p < wr.heap.size ∧ Row wr p 53 [.pointer (some ⟨p, 0, none⟩), .int .i64 (now + 1), .map (some bm), .map (some dm)] ∧ Reads wr wr.heap.size 1 A n (ints out) ∧ MapAt wr dm (noId (now + 1) (dueE G)) ∧ wr.ownsRow (W2.heap.size + 1) 3 1 (.slice A n c) n (ints out)) := fun wr hg => Lib.hid (by
    obtain ⟨m5, g5, me5, r5, o5, T5⟩ := M5.out
    obtain ⟨hlo, hpb, hpd, hbd⟩ := HLO.out
    have r6 := r5.keep (hg.block p r5.lt (fun e => by injection e with e; exact hpb e))
    have o6 := own_keep o5 (fun g h => hg.block g (o5.lt g h).2 (fun e => by injection e with e; have := (o5.lt g h).1; have := hlo bm (.inr (.inl rfl)); omega))
    exact ⟨r6.cell rfl, r6.lt, r6, Reads.of_own o6, m5.keep (hg.block dm m5.lt (fun e => by injection e with e; exact hbd e.symm)), o6⟩)
  go_loopw [37] (fun s wr => ∃ k : Nat, s = .int .i64 (k : Int) ∧ k ≤ n ∧ MapAt wr bm (dels (out.take k) (endsE L)) ∧ w5.grownBy wr (some bm)) (fun s _ => n - (intOf s).toNat)
  case atStart => exact ⟨0, rfl, Nat.zero_le _, M5.out.2.2.1, World.grownBy.refl w5 _⟩
  case round =>
    obtain ⟨k, rfl, hk, hm, hg⟩ := hrel
    have HM := Lib.hid hm
    have HGR := Lib.hid hg
    have HF := hL wr hg
    clear hm hg
    by_cases hlt : k < n
    · have hltz : (k : Int) < (n : Int) := by omega
      obtain ⟨ad, rfl, hab, hc⟩ := HF.out.2.2.2.1.int_at hlt
      have hal : (ad.add k).block < wr.heap.size := by rw [block_of_add]; exact hab
      have c2 := HF.out.1
      have hpl := HF.out.2.1
      have hst := HE.out k hlt
      have hxw := HWF.out k hlt
      generalize out.getD k 0 = x at *
      have HST := Lib.hid hst
      clear hst hab
      go_wp2_with (first
        | (at_delete; refine wpList_del 50 uE rfl _ _ rfl bm (dels (out.take k) (endsE L)) x rfl HM.out rfl hxw ?_; intro w6 m6 g6; rw [HST.out] at m6; have M6 := Lib.hid (And.intro m6 (grown_then HGR.out g6)); clear m6 g6 c2 hpl hc hal))
      exact ⟨⟨k + 1, by go_num, by omega, M6.out.1, M6.out.2⟩, by simp [intOf]; omega⟩
    · obtain rfl : k = n := by omega
      have hnl : ¬ (k : Int) < (k : Int) := by omega
      go_wp2
      go_ret
      obtain ⟨f2, fl, fr, fo, fd, fw⟩ := HF.out
      obtain ⟨m5, g5, me5, r5, o5, T5⟩ := M5.out
      obtain ⟨hlo, hpb, hpd, hbd⟩ := HLO.out
      have hm := HM.out
      rw [show out.take k = out by rw [← HNN.out]; exact List.take_length] at hm
      have hw := tick_end H.out (w' := wr) fr (by rw [HO.out]; exact hm) fd (fun q hq => by
        have ho := H.out.out q hq
        have hF : Foot p bm dm G q.2 := .inr (.inr (.inr ⟨q, hq, rfl⟩))
        have h4 := H.out.lt _ hF
        have s4 : q.2 < w4.heap.size := by
          have e := HSET.out q hq
          rw [Array.getElem?_eq_getElem h4] at e
          exact (Array.getElem?_eq_some_iff.1 e).1
        exact ((HGR.out.block _ (Nat.lt_of_lt_of_le s4 g5.size) (fun e => by injection e with e; exact ho.2.1 e)).trans (g5.block _ s4 (fun e => by injection e with e; exact ho.2.2 e))).trans (HSET.out q hq))
      obtain ⟨A1, c1, e1, e2, e3⟩ := own_shape fw
      injection e1 with e1 e1' e1''
      subst e1 e1''
      have hT := turn_less (T5.trans (grown_turn HGR.out (.inr (.inl rfl)))) (Z'' := Foot p bm dm (noTick (now + 1) G)) fun b hb => foot_tick hb
      unfold TickPost
      rw [HO.out, HNN.out]
      refine ⟨A, c, _, rfl, fo, fun ad hA => ?_, e2, e3, hw, fun q hq => (noTick_mem.1 hq).1, hT⟩
      subst hA
      have hs2 : W2.heap.size = w.heap.size := HN.out.2
      rcases fw.2 with ⟨e, _⟩ | ⟨g, cap, cur, e, hb, _⟩
      · injection e with e
        cases e
      · injection e with e
        injection e with e
        subst e
        simp only
        omega
end
end Go.Proofs.Ytfojempmgonahaa.Wh
