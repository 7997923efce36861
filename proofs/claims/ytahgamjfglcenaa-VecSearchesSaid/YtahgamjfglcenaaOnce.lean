/- What onceEach of package vec returns: of each number the one that stands first, in any order. Conditions: the slice reads as a list. -/
import Derived.Test.YtahgamjfglcenaaLess
import Derived.Maps.Own
import Derived.Maps.OwnSet
import Derived.Maps.RangeWalk
set_option linter.unusedVariables false
set_option linter.unusedSimpArgs false
namespace Go.Proofs.Ytahgamjfglcenaa
open Go Go.RowKit Go.Maps
abbrev Dat := DataW Unit
def hd (h : Hit) : Dat := .agg [.lit (.int .i64 h.1), .lit (.int .i64 h.2)]
def hitR (v : Value) : Option (Dat × List MemPlace) :=
  match v with
  | .agg xs => match xs.toList with
    | [.int .i64 a, .int .i64 b] => some (hd (a, b), [])
    | _ => none
  | _ => none
theorem hitR_mk (h : Hit) : hitR (hitV h) = some (hd h, []) := rfl
theorem hitR_inv {v : Value} {y : Dat × List MemPlace} (h : hitR v = some y) : ∃ c : Hit, v = hitV c ∧ y = (hd c, []) := by
  unfold hitR at h
  split at h
  · rename_i xs
    split at h
    · rename_i a b he
      injection h with h
      refine ⟨(a, b), ?_, h.symm⟩
      unfold hitV
      congr 1
      apply Array.toList_inj.1
      exact he
    · cases h
  · cases h
theorem hd_inj {a b : Hit} (h : hd a = hd b) : a = b := by
  unfold hd at h
  injection h with h
  injection h with h1 h2
  injection h2 with h2 _
  injection h1 with h1
  injection h2 with h2
  injection h1 with _ h1
  injection h2 with _ h2
  exact Prod.ext h1 h2
/-- It is of the list, and of those with its number the first. -/
def Best (m : List Hit) (h : Hit) : Prop := h ∈ m ∧ ∀ h' ∈ m, h'.1 = h.1 → hlt h' h = false
theorem best_unique {m : List Hit} {h h' : Hit} (a : Best m h) (b : Best m h') (e : h.1 = h'.1) : h = h' := hlt_total (b.2 h a.1 e) (a.2 h' b.1 e.symm)
theorem best_exists {m : List Hit} {x : Int} (h : ∃ h ∈ m, h.1 = x) : ∃ h, Best m h ∧ h.1 = x := by
  induction m with
  | nil => obtain ⟨h, hm, _⟩ := h; simp at hm
  | cons y r ih =>
    by_cases hr : ∃ h ∈ r, h.1 = x
    · obtain ⟨b, hb, hx⟩ := ih hr
      by_cases hy : y.1 = x ∧ hlt y b = true
      · refine ⟨y, ⟨List.mem_cons_self .., fun h' hm he => ?_⟩, hy.1⟩
        rcases List.mem_cons.1 hm with rfl | hm
        · exact hlt_irrefl _
        · cases hc : hlt h' y with
          | false => rfl
          | true =>
            have h1 := hb.2 h' hm (by rw [he, hy.1, hx])
            rw [hlt_trans hc hy.2] at h1
            cases h1
      · refine ⟨b, ⟨List.mem_cons_of_mem _ hb.1, fun h' hm he => ?_⟩, hx⟩
        rcases List.mem_cons.1 hm with rfl | hm
        · cases hc : hlt h' b with
          | false => rfl
          | true => exact absurd ⟨he.trans hx, hc⟩ hy
        · exact hb.2 h' hm he
    · obtain ⟨h, hm, hx⟩ := h
      rcases List.mem_cons.1 hm with rfl | hm
      · refine ⟨h, ⟨List.mem_cons_self .., fun h' hm' he => ?_⟩, hx⟩
        rcases List.mem_cons.1 hm' with rfl | hm'
        · exact hlt_irrefl _
        · exact absurd ⟨h', hm', he.trans hx⟩ hr
      · exact absurd ⟨h, hm, hx⟩ hr
def kl (x : Int) : Lit := .int .i64 x
theorem kl_ne {x y : Int} (h : x ≠ y) : kl x ≠ kl y := fun e => h (by injection e)
/-- The map D tells, of each number of the list m, the one that stands first. -/
structure Tab (D : Dat) (m : List Hit) : Prop where
  tidy : Maps.Tidy D
  has : ∀ x : Int, Maps.has D (kl x) = true ↔ ∃ h ∈ m, h.1 = x
  at_ : ∀ h, Best m h → ∀ z, D.atKey (kl h.1) z = hd h

theorem kl_key (x : Int) : WideAt.IsKeyLit (kl x) := by unfold kl WideAt.IsKeyLit; trivial
theorem kl_same (x y : Int) : (kl x).sameKey (kl y) = decide (x = y) := by
  rw [Bool.eq_iff_iff, WideAt.sameKey_iff (kl_key y), decide_eq_true_iff]
  exact ⟨fun h => by injection h, fun h => by rw [h]⟩
theorem Tab.start : Tab (.map []) [] := ⟨Maps.tidy_empty, fun x => by simp [Maps.has], fun h hb => by have := hb.1; simp at this⟩
theorem Tab.put {D : Dat} {m : List Hit} {h : Hit} (hT : Tab D m) (hb : ∀ b, Best m b → b.1 = h.1 → hlt h b = true) : Tab (D.put (kl h.1) (hd h)) (m ++ [h]) := by
  refine ⟨hT.tidy.put (kl_key _) _, fun x => ?_, fun b hB z => ?_⟩
  · by_cases hx : x = h.1
    · subst hx
      rw [Maps.has_put_same hT.tidy.isMap (kl_key _)]
      exact ⟨fun _ => ⟨h, by simp, rfl⟩, fun _ => rfl⟩
    · rw [Maps.has_put_other (kl_ne hx), hT.has]
      constructor
      · rintro ⟨b, hb, e⟩
        exact ⟨b, List.mem_append_left _ hb, e⟩
      · rintro ⟨b, hb, e⟩
        rcases List.mem_append.1 hb with hb | hb
        · exact ⟨b, hb, e⟩
        · simp only [List.mem_singleton] at hb
          subst hb
          exact absurd e.symm hx
  · have hm := hB.1
    by_cases hx : b.1 = h.1
    · have e : b = h := by
        rcases List.mem_append.1 hm with hm | hm
        · exfalso
          obtain ⟨b0, hb0, e0⟩ := best_exists (m := m) (x := h.1) ⟨b, hm, hx⟩
          have h1 := hb b0 hb0 e0
          have h2 := hB.2 h (by simp) hx.symm
          have h3 := hB.2 b0 (List.mem_append_left _ hb0.1) (by rw [e0, hx])
          have h4 := hb0.2 b hm (by rw [hx, e0])
          rw [hlt_total h4 h3] at h2
          rw [h2] at h1
          cases h1
        · simpa using hm
      subst e
      rw [Maps.atKey_put_same hT.tidy.isMap (kl_key _)]
    · rw [Maps.atKey_put_other (kl_ne hx)]
      refine hT.at_ b ⟨?_, fun h' hm' e => hB.2 h' (List.mem_append_left _ hm') e⟩ z
      rcases List.mem_append.1 hm with hm | hm
      · exact hm
      · simp only [List.mem_singleton] at hm
        subst hm
        exact absurd rfl hx
theorem Tab.skip {D : Dat} {m : List Hit} {h b : Hit} (hT : Tab D m) (hb : Best m b) (e : b.1 = h.1) (hl : hlt h b = false) : Tab D (m ++ [h]) := by
  refine ⟨hT.tidy, fun x => ?_, fun c hC z => ?_⟩
  · rw [hT.has]
    constructor
    · rintro ⟨c, hc, ec⟩
      exact ⟨c, List.mem_append_left _ hc, ec⟩
    · rintro ⟨c, hc, ec⟩
      rcases List.mem_append.1 hc with hc | hc
      · exact ⟨c, hc, ec⟩
      · simp only [List.mem_singleton] at hc
        subst hc
        exact ⟨b, hb.1, e.trans ec⟩
  · have hm := hC.1
    rcases List.mem_append.1 hm with hm | hm
    · exact hT.at_ c ⟨hm, fun h' hm' e' => hC.2 h' (List.mem_append_left _ hm') e'⟩ z
    · simp only [List.mem_singleton] at hm
      subst hm
      have h1 := hC.2 b (List.mem_append_left _ hb.1) e
      rw [← hlt_total h1 hl]
      exact hT.at_ b hb z
theorem hits_snoc (l : List Hit) (h : Hit) : hits (l ++ [h]) = hits l ++ hcell h := by simp [hits]
theorem take_hit (l : List Hit) (k : Nat) (hk : k < l.length) : l.take (k + 1) = l.take k ++ [l.getD k (0, 0)] := by
  rw [List.take_succ_eq_append_getElem hk, List.getD_eq_getElem?_getD, List.getElem?_eq_getElem hk]
  rfl
theorem keyed3 : Keyed Try.prog 3 := int_keyed Try.underlying3
theorem zero37 (w : World) : (zeroValue 37).run Try.prog w = .ok (hitV (0, 0)) w := by kernel_rfl
def WF (l : List Hit) : Prop := ∀ h ∈ l, (Lit.int .i64 h.1).wf = true
theorem WF.at_ {l : List Hit} (h : WF l) {k : Nat} (hk : k < l.length) : (Lit.int .i64 (l.getD k (0, 0)).1).wf = true := by
  refine h _ ?_
  rw [List.getD_eq_getElem?_getD, List.getElem?_eq_getElem hk]
  exact List.getElem_mem hk
theorem below_row {w w1 w2 : World} (h : Below w.heap.size w w1) (hg : w1.grownBy w2 (some w.heap.size)) : Below w.heap.size w w2 := by
  have h1 := h.size
  have h2 := hg.size
  exact h.trans ⟨hg.os, hg.tape, hg.output, h2, fun b hb => hg.block b (by omega) (by simp; omega)⟩
theorem map_size {w : World} {b n : Nat} {D : Dat} (h : w.ownsMap Try.prog 3 hitR b n D) : Maps.size D ≤ n := by
  obtain ⟨es, clock, _, F, hs, rfl⟩ := h
  simp [Maps.size, length_sorted]
  exact hs
theorem hit_row : (Try.prog.info? 37).map (fun i => (i.zero, i.size, i.bytes)) = some (some (hitV (0, 0)), 2, 16) := by kernel_rfl
theorem append_hit {ops : Array Oper} {rest : List Oper} {o : Oper} {a : Act} {Q : Exit → Act → World → Prop} {W : World} (hgd : o.guard = none) (s x : Operand)
    (ho : o.op = .call { callee := .builtin .append, args := #[s, x], argTypes := #[31, 31] })
    (base : Nat) (v : Value) (n : Nat) (l : List Hit) (z : Hit) (hs : a.eval s = v) (hown : W.ownsRow base 37 2 v n (hits l)) (N : Nat) (hN : N = W.heap.size) (hx : a.eval x = .slice (some ⟨N, 0, none⟩) 1 1)
    (hn : n ≤ 1000000000) (hbase : base ≤ W.heap.size)
    (h : ∀ v' w', w'.ownsRow base 37 2 v' (n + 1) (hits (l ++ [z])) → W.grownBy w' v.ownBlock → (v'.ownBlock = v.ownBlock ∨ ∀ k, v'.ownBlock = some k → W.heap.size ≤ k) → wpList Try.prog ops Q rest (a.put o.dst v') w') :
    wpList Try.prog ops Q (o :: rest) a (W.alloc (.cells #[.int .i64 z.1, .int .i64 z.2] 37)) := by
  subst hN
  obtain ⟨i0, hi, hz0, hz1, hz2⟩ := info_parts hit_row
  refine append_new hgd s x 31 37 37 ho base i0 (hitV (0, 0)) 2 16 Try.underlying31 hi hz0 hz1 hz2 rfl (by decide) (by decide) v n (hits l) hs hown hx #[.int .i64 z.1, .int .i64 z.2] rfl (by intro u hu; simp at hu; rcases hu with rfl | rfl <;> rfl) hn hbase (fun v' w' h1 h2 h3 => ?_)
  refine h v' w' ?_ h2 h3
  rw [hits_snoc]
  exact h1
theorem own_ne {w : World} {base : Nat} {e : TypeId} {size : Nat} {v : Value} {n : Nat} {xs : List Value} (h : w.ownsRow base e size v n xs) {k : Nat} (hk : ∀ C T lo, w.heap[k]? ≠ some (.cells C T lo)) : v.ownBlock ≠ some k := by
  rcases h.2 with ⟨rfl, _⟩ | ⟨g, cap, cur, rfl, _, hh, _⟩
  · simp [Value.ownBlock]
  · intro he
    have : g = k := by simpa [Value.ownBlock] using he
    subst this
    exact hk _ _ _ hh
theorem ranges_ne {w : World} {b r n : Nat} {D : Dat} {left : Lit → Bool} {cnt base : Nat} {e : TypeId} {size : Nat} {v : Value} {m : Nat} {xs : List Value} (h : w.ranges Try.prog 3 hitR b r n D left cnt) (ho : w.ownsRow base e size v m xs) : v.ownBlock ≠ some b ∧ v.ownBlock ≠ some r := by
  obtain ⟨es, clock, since, seen, c0, hb, _, _, _, hr, _⟩ := h
  exact ⟨own_ne ho (fun C T lo => by rw [hb]; simp), own_ne ho (fun C T lo => by rw [hr]; simp)⟩
/-- What has been gathered: just those best ones that are no longer to come. -/
structure Got (l os : List Hit) (left : Lit → Bool) : Prop where
  nodup : (os.map (·.1)).Nodup
  mem : ∀ h, h ∈ os ↔ (Best l h ∧ left (kl h.1) = false)
theorem Got.start {l : List Hit} {D : Dat} (hT : Tab D l) : Got l [] (Maps.has D) :=
  ⟨by simp, fun h => ⟨fun hm => by simp at hm, fun hm => by
    have := (hT.has h.1).2 ⟨h, hm.1.1, rfl⟩
    rw [hm.2] at this
    cases this⟩⟩
theorem Got.step {l os : List Hit} {left : Lit → Bool} {x : Hit} (h : Got l os left) (hb : Best l x) (hx : left (kl x.1) = true) : Got l (os ++ [x]) (fun z => left z && !z.sameKey (kl x.1)) := by
  refine ⟨?_, fun y => ?_⟩
  · rw [List.map_append, List.nodup_append]
    refine ⟨h.nodup, by simp, fun a ha b hb' => ?_⟩
    obtain ⟨y, hy, rfl⟩ := List.mem_map.1 ha
    simp only [List.map_cons, List.map_nil, List.mem_singleton] at hb'
    subst hb'
    intro he
    have := ((h.mem y).1 hy).2
    rw [he, hx] at this
    cases this
  · rw [List.mem_append, h.mem, List.mem_singleton, kl_same]
    constructor
    · rintro (⟨h1, h2⟩ | rfl)
      · exact ⟨h1, by rw [h2]; rfl⟩
      · exact ⟨hb, by simp⟩
    · rintro ⟨h1, h2⟩
      by_cases he : y.1 = x.1
      · exact .inr (best_unique h1 hb he)
      · refine .inl ⟨h1, ?_⟩
        simpa [he] using h2
theorem nodup_len : ∀ (os l : List Hit), os.Nodup → (∀ x ∈ os, x ∈ l) → os.length ≤ l.length
  | [], _, _, _ => Nat.zero_le _
  | x :: xs, l, hn, hs => by
    obtain ⟨h1, h2⟩ := List.nodup_cons.1 hn
    have hx := hs x (List.mem_cons_self ..)
    have := nodup_len xs (l.erase x) h2 (fun y hy => (List.mem_erase_of_ne (fun e => h1 (by rw [← e]; exact hy))).2 (hs y (List.mem_cons_of_mem _ hy)))
    rw [List.length_erase_of_mem hx] at this
    have hp := List.length_pos_of_mem hx
    simp only [List.length_cons]
    omega
theorem nodup_of_ids {os : List Hit} (h : (os.map (·.1)).Nodup) : os.Nodup := List.Pairwise.of_map (·.1) (fun a b hne he => hne (by rw [he])) h
theorem got_short {l os : List Hit} {left : Lit → Bool} (h : Got l os left) : os.length ≤ l.length :=
  nodup_len os l (nodup_of_ids h.nodup) (fun x hx => ((h.mem x).1 hx).1.1)
theorem map_below {w w' : World} {b n : Nat} {D : Dat} (h : w.ownsMap Try.prog 3 hitR b n D) (hb : Below w.heap.size w w') : w'.ownsMap Try.prog 3 hitR b n D := h.kept (grown_below hb none) (by simp)
def OncePost (l : List Hit) (w : World) (e : Ending) (w' : World) : Prop :=
  ∃ (v : Value) (os : List Hit), e = .returned v ∧ w'.ownsRow w.heap.size 37 2 v os.length (hits os) ∧ (os.map (·.1)).Nodup ∧ (∀ h, h ∈ os ↔ Best l h) ∧ os.length ≤ l.length ∧ Below w.heap.size w w'
set_option maxHeartbeats 8000000 in
set_option maxRecDepth 100000 in
theorem once_any (A : Option Addr) (n c : Nat) (l : List Hit) (w : World) (hx : Reads w w.heap.size 2 A n (hits l)) (hw : WF l) (hn : n ≤ 1000000) : Calls Try.prog 26 #[.slice A n c] w (OncePost l w) := by
  have hmm := @run_makeMap Try.prog
  have hl := hx.hits_len
  have hl1 : n ≤ l.length := by omega
  have hl2 : l.length ≤ n := by omega
  have hmk := World.ownsMap_made w Try.prog 3 hitR
  have hb0 : Below w.heap.size w (w.alloc (.map #[] 0)) := (Below.refl _ w).alloc (Nat.le_refl _) _
  have HX := Lib.hid hx
  have HW := Lib.hid hw
  clear hl hx hw
  go_enter Try.func26, Try.ntmps26
  go_wp2_with fail
  go_loopw [14] (fun i wr => ∃ (k : Nat) (D : Dat), k ≤ n ∧ i = .int .i64 k ∧ wr.ownsMap Try.prog 3 hitR w.heap.size k D ∧ Hid (Tab D (l.take k)) ∧ Below w.heap.size w wr) (fun i _ => n - (intOf i).toNat)
  case atStart => exact ⟨0, .map [], Nat.zero_le _, rfl, hmk, Lib.hid Tab.start, hb0⟩
  case round =>
    obtain ⟨k, D, hk, rfl, hown, HT, hb⟩ := hrel
    clear hmk hb0
    by_cases hlt' : k < n
    · have hltz : (k : Int) < (n : Int) := by omega
      obtain ⟨ad, rfl, hbk, hkl, c0, c1⟩ := (HX.out.below hb).hit_at hlt'
      have hwf := HW.out.at_ hkl
      have HK := Lib.hid (take_hit l k hkl)
      generalize l.getD k (0, 0) = h at *
      have hkey : keyOf Try.prog 3 (.int .i64 h.1) = some (.int .i64 h.1) := keyOf_int_mk Try.underlying3 hwf
      have hownA := hown.alloc (.cells #[.int .i64 h.1, .int .i64 h.2] 37)
      obtain ⟨v, ps, hrun, hv⟩ := hownA.look_ok keyed3 Try.underlying55 (zero37 _) (hitR_mk (0, 0)) hkey
      obtain ⟨cv, rfl, hcv⟩ := hitR_inv hv
      have hbA : Below wr.heap.size wr ((wr.alloc (.cells #[.int .i64 h.1, .int .i64 h.2] 37)).alloc (.cells #[.int .i64 cv.1, .int .i64 cv.2] 37)) := ((Below.refl _ wr).alloc (Nat.le_refl _) _).alloc (by simp) _
      have hB1 := hb.size
      have HKEY := Lib.hid hkey
      have HBA := Lib.hid hbA
      have hlow : w.heap.size < wr.heap.size := hown.lt
      have HOW := Lib.hid hown
      unfold hitV at hrun
      cases hhas : Maps.has D (.int .i64 h.1) with
      | false =>
        rw [hhas] at hrun
        have hno : ∀ b, Best (l.take k) b → b.1 = h.1 → hlt h b = true := fun b hb e => by
          have := (HT.out.has h.1).2 ⟨b, hb.1, e⟩
          unfold kl at this
          rw [hhas] at this
          cases this
        have HT2 := Lib.hid (HT.out.put hno)
        clear hownA hown hkey hv hcv hhas hno hbA
        go_wp2_with (at_mapUpdate; refine wpList_mapUpdate_own _ rfl _ _ _ 55 rfl 3 37 keyed3 Try.underlying55 hitR w.heap.size k D rfl (map_below HOW.out HBA.out) (by unfold maxLen; omega) _ (.agg #[.int .i64 h.1, .int .i64 h.2]) _ rfl rfl HKEY.out (hd h) [] rfl ?_; intro w4 hown4 hg4)
        go_roundw
        case rel => exact ⟨k + 1, _, by omega, by go_num, hown4, Lib.hid (by rw [HK.out]; exact HT2.out), below_row (hb.trans (HBA.out.mono hB1)) hg4⟩
        case measure => simp [intOf]; omega
      | true =>
        rw [hhas] at hrun
        obtain ⟨b, hbest, hb1⟩ := best_exists ((HT.out.has h.1).1 hhas)
        have hcb : cv = b := by
          have h1 := HT.out.at_ b hbest (hd (0, 0))
          rw [hb1] at h1
          unfold kl at h1
          rw [h1] at hcv
          exact (hd_inj (congrArg Prod.fst hcv)).symm
        subst hcb
        have hl3 := less_any h cv ((wr.alloc (.cells #[.int .i64 h.1, .int .i64 h.2] 37)).alloc (.cells #[.int .i64 cv.1, .int .i64 cv.2] 37))
        unfold hitV at hl3
        have HBEST := Lib.hid hbest
        have HB1 := Lib.hid hb1
        cases hlv : hlt h cv with
        | true =>
          rw [hlv] at hl3
          have hno : ∀ b, Best (l.take k) b → b.1 = h.1 → hlt h b = true := fun b hb e => by
            rw [best_unique hb HBEST.out (e.trans HB1.out.symm)]
            exact hlv
          have HT2 := Lib.hid (HT.out.put hno)
          have HL := Lib.hid hl3
          clear hownA hown hkey hv hcv hhas hno hlv hl3 hbest hb1 hbA
          go_wp2_with fail
          refine HL.out.mono ?_
          rintro e w3 ⟨rfl, hb3⟩
          have x0 : w3.cell? ⟨wr.heap.size, 0, none⟩ = some (.int .i64 h.1) := (hb3.cell (p := ⟨wr.heap.size, 0, none⟩) (by simp; omega)).trans (by simp)
          have x1 : w3.cell? ⟨wr.heap.size, 1, none⟩ = some (.int .i64 h.2) := (hb3.cell (p := ⟨wr.heap.size, 1, none⟩) (by simp; omega)).trans (by simp)
          have HB3 := Lib.hid (below_then HBA.out hb3)
          clear hb3
          go_wp2_with (at_mapUpdate; refine wpList_mapUpdate_own _ rfl _ _ _ 55 rfl 3 37 keyed3 Try.underlying55 hitR w.heap.size k D rfl (map_below HOW.out HB3.out) (by unfold maxLen; omega) _ (.agg #[.int .i64 h.1, .int .i64 h.2]) _ rfl rfl HKEY.out (hd h) [] rfl ?_; intro w4 hown4 hg4)
          go_roundw
          case rel => exact ⟨k + 1, _, by omega, by go_num, hown4, Lib.hid (by rw [HK.out]; exact HT2.out), below_row (hb.trans (HB3.out.mono hB1)) hg4⟩
          case measure => simp [intOf]; omega
        | false =>
          rw [hlv] at hl3
          have HT2 := Lib.hid (HT.out.skip hbest hb1 hlv)
          have HL := Lib.hid hl3
          clear hownA hown hkey hv hcv hhas hlv hl3 hbest hb1 hbA
          go_wp2_with fail
          refine HL.out.mono ?_
          rintro e w3 ⟨rfl, hb3⟩
          have HB3 := Lib.hid (below_then HBA.out hb3)
          clear hb3
          go_wp2_with fail
          go_roundw
          case rel => exact ⟨k + 1, D, by omega, by go_num, (map_below HOW.out HB3.out).mono (by omega), Lib.hid (by rw [HK.out]; exact HT2.out), hb.trans (HB3.out.mono hB1)⟩
          case measure => simp [intOf]; omega
    · have hkn : k = n := by omega
      subst hkn
      rw [List.take_of_length_le (by omega)] at HT
      clear hmm
      have hsz := map_size hown
      have HOW := Lib.hid hown
      have hbs := hb.size
      obtain ⟨i0, hi, hz0, hz1, hz2⟩ := info_parts hit_row
      clear hown
      go_wp2_with (first
        | (at_len; refine wpList_len_own _ rfl _ 55 rfl 3 37 Try.underlying55 hitR w.heap.size k D rfl HOW.out ?_)
        | (at_make; refine wpList_make_own _ rfl _ _ 31 rfl w.heap.size 37 i0 (hitV (0, 0)) 2 Try.underlying31 hi hz0 hz1 .i64 .i64 _ (Maps.size D) rfl rfl rfl (by rw [hz2]; omega) (by unfold maxLen; omega) hbs ?_; intro w5 hown5 hg5; have hM5 := HOW.out.kept hg5 (by simp))
        | (at_range; refine wpList_range_own _ rfl _ 55 rfl 3 37 keyed3 Try.underlying55 hitR w.heap.size k D rfl hM5 ?_; intro w6 hrg6 hg6 hs6))
      go_frame
      have hT := HT.out
      have hown6 := hown5.kept hg6 (by
        rcases hq : (Value.slice (some ⟨wr.heap.size, 0, none⟩) 0 (Maps.size D)).ownBlock with _ | g
        · exact .inl rfl
        · exact .inr (by simp))
      have hb6 : Below w.heap.size w w6 := (hb.trans ⟨hg5.os, hg5.tape, hg5.output, hg5.size, fun b hb' => hg5.block b (by omega) (by simp)⟩).trans ⟨hg6.os, hg6.tape, hg6.output, hg6.size, fun b hb' => hg6.block b (by have := hg5.size; omega) (by simp)⟩
      have hR : w.heap.size < w5.heap.size := hM5.lt
      generalize w5.heap.size = R at *
      clear hM5 hown5 hg5 hg6 hsz hbs HOW
      go_loopw [8] (fun v w7 => ∃ (left : Lit → Bool) (cnt : Nat) (os : List Hit), w7.ranges Try.prog 3 hitR w.heap.size R k D left cnt ∧ w7.ownsRow w.heap.size 37 2 v os.length (hits os) ∧ Hid (Got l os left) ∧ Hid (∀ x : Int, left (kl x) = true → Maps.has D (kl x) = true) ∧ Below w.heap.size w w7) (fun _ w7 => w7.rangeLeft w.heap.size R)
      case atStart => exact ⟨_, _, [], hrg6, hown6, Lib.hid (Got.start hT), Lib.hid (fun _ h => h), hb6⟩
      case round =>
        obtain ⟨left, cnt, os, hrg, hown, HG, HL, hb7⟩ := hrel
        clear hrg6 hown6 hb6 hs6
        have hshort := got_short HG.out
        have hbs := hb7.size
        have HT2 := Lib.hid hT
        clear hT
        go_wp2_with (at_next; refine wpList_next_ranges _ rfl _ rfl 3 keyed3 hitR (Value.int .i64) hitV (fun key kl hkey => by obtain ⟨x, rfl, _⟩ := Maps.keyOf_int_inv Try.underlying3 hkey; exact ⟨x, rfl⟩) (fun v y hv => by obtain ⟨c, rfl, _⟩ := hitR_inv hv; exact ⟨c, rfl⟩) w.heap.size R k D left cnt rfl hrg ?_ ?_)
        · intro _ hl0
          have hmem : ∀ h, h ∈ os ↔ Best l h := fun h => by
            rw [HG.out.mem, hl0]
            simp
          have HF := Lib.hid (And.intro hown (And.intro hmem (And.intro hshort hb7)))
          clear hown hmem hshort hb7 hrg hl0
          go_wp2_with fail
          go_ret
          exact ⟨_, os, rfl, HF.out.1, HG.out.nodup, HF.out.2.1, HF.out.2.2.1, HF.out.2.2.2⟩
        · intro x a b kl0 d0 p0 w1 cnt1 hk0 hlk hcv hat hrg1 hlt1 hg1 hs1 hen
          obtain ⟨x', ex, rfl, _⟩ := Maps.keyOf_int_inv Try.underlying3 hk0
          injection ex with _ ex
          subst ex
          have hd0 : d0 = hd (a, b) := by
            rw [hitR_mk] at hcv
            injection hcv with hcv
            exact (congrArg Prod.fst hcv).symm
          subst hd0
          obtain ⟨b0, hbest, hb1⟩ := best_exists ((HT2.out.has x).1 (HL.out x hlk))
          have hbe : b0 = (a, b) := by
            have h1 := HT2.out.at_ b0 hbest (hd (0, 0))
            rw [hb1] at h1
            have h2 := hat (hd (0, 0))
            unfold kl at h1
            rw [h1] at h2
            exact hd_inj h2
          subst hbe
          simp only at hb1
          subst hb1
          have HG2 := Lib.hid (HG.out.step hbest hlk)
          have hL2 : ∀ y : Int, (left (kl y) && !(kl y).sameKey (kl a)) = true → Maps.has D (kl y) = true := fun y hy => HL.out y (by
            cases hc : left (kl y)
            · rw [hc] at hy
              cases hy
            · rfl)
          have HL2 := Lib.hid hL2
          have hne := ranges_ne hrg hown
          have hown1 := hown.kept hg1 (by
            rcases hq : Value.ownBlock _ with _ | g
            · exact .inl rfl
            · exact .inr (by rw [← hq]; exact hne.2))
          have HNE := Lib.hid hne
          have HRG1 := Lib.hid hrg1
          have HMEAS := Lib.hid (And.intro hrg.left_eq hlt1)
          have hbs1 : w.heap.size ≤ w1.heap.size := by omega
          have HB8 := Lib.hid (hb7.trans ⟨hg1.os, hg1.tape, hg1.output, hg1.size, fun c hc => hg1.block c (by omega) (by simp; omega)⟩ : Below w.heap.size w w1)
          have HOWN1 := Lib.hid hown1
          unfold hitV at hen
          clear hk0 hlk hcv hat hrg1 hlt1 hg1 hrg hown hbest hL2 hne hb7 hown1
          go_wp2_with (at_builtin; refine append_hit rfl (.tmp 46) (.tmp 48) rfl w.heap.size _ os.length os (a, b) rfl (HOWN1.out.alloc _) _ (by simp; omega) rfl (by omega) (by simp; omega) ?_; intro v2 w2 hown2 hg2 hv2)
          go_roundw
          case rel =>
            have hg3 := grown_then (World.grownBy_alloc w1 (.cells #[.int .i64 a, .int .i64 b] 37) _) hg2
            refine ⟨_, cnt1, os ++ [(a, b)], HRG1.out.kept hg3 (Ne.symm HNE.out.1) (Ne.symm HNE.out.2), by rw [List.length_append]; exact hown2, HG2, HL2, HB8.out.trans (below_own HOWN1.out hg3 hbs1)⟩
          case measure =>
            have hg3 := grown_then (World.grownBy_alloc w1 (.cells #[.int .i64 a, .int .i64 b] 37) _) hg2
            have hr3 := HRG1.out.kept hg3 (Ne.symm HNE.out.1) (Ne.symm HNE.out.2)
            rw [hr3.left_eq, HMEAS.out.1]
            exact HMEAS.out.2
end Go.Proofs.Ytahgamjfglcenaa
