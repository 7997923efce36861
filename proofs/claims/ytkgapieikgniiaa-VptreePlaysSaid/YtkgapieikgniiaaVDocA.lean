/- The document's tree as a value: its words; what place returns. Conditions: the tree lies in memory. -/
import Derived.Test.YtkgapieikgniiaaVRSearch
import Derived.Test.YtkgapieikgniiaaVAll
set_option linter.unusedVariables false
set_option linter.unusedSimpArgs false
namespace Go.Proofs.Ytkgapieikgniiaa
open Go Go.RowKit Go.Maps
/-- A point's slice lies in blocks that are allowed. -/
structure PtIn (w : World) (P : Nat → Prop) (p : Pt) : Prop where
  len : p.2.1.2.1 = p.2.2.length
  cells : 0 < p.2.2.length → ∃ ad, p.2.1.1 = some ad ∧ P ad.block ∧ ∀ j u, (ints p.2.2)[j]? = some u → w.cell? (ad.add j) = some u
  max : p.2.2.length ≤ maxLen
  wf : (Lit.int .i64 p.1).wf = true
/-- A slice of points, all in blocks that are allowed. -/
structure DocW (w : World) (P : Nat → Prop) (A : Option Addr) (c : Nat) (l : List Pt) : Prop where
  nc : l.length ≤ c
  cm : c ≤ maxLen
  row : (A = none ∧ c = 0 ∧ l = []) ∨ ∃ ad, A = some ad ∧ P ad.block ∧ ∀ j u, (pts l)[j]? = some u → w.cell? (ad.add j) = some u
  allp : ∀ p ∈ l, PtIn w P p
  lt : ∀ b, P b → b < w.heap.size
section
variable {w w' : World} {P P' : Nat → Prop} {A : Option Addr} {c : Nat} {l : List Pt} {p : Pt}
theorem PtIn.keep (h : PtIn w P p) (hk : ∀ b, P b → w'.heap[b]? = w.heap[b]?) : PtIn w' P p :=
  ⟨h.len, fun h0 => by
    obtain ⟨ad, e, hp, hc⟩ := h.cells h0
    exact ⟨ad, e, hp, fun j u hj => (World.cell?_of_block (by rw [block_of_add]; exact hk _ hp)).trans (hc j u hj)⟩, h.max, h.wf⟩
theorem PtIn.more (h : PtIn w P p) (hP : ∀ b, P b → P' b) : PtIn w P' p :=
  ⟨h.len, fun h0 => by
    obtain ⟨ad, e, hp, hc⟩ := h.cells h0
    exact ⟨ad, e, hP _ hp, hc⟩, h.max, h.wf⟩
theorem PtIn.reads (h : PtIn w P p) (hl : ∀ b, P b → b < w.heap.size) : Reads w w.heap.size 1 p.2.1.1 p.2.1.2.1 (ints p.2.2) :=
  ⟨by rw [ints_len, h.len]; omega, fun h0 => by
    obtain ⟨ad, e, hp, hc⟩ := h.cells (by rw [← h.len]; exact h0)
    exact ⟨ad, e, hl _ hp, hc⟩⟩
theorem DocW.keep (h : DocW w P A c l) (hk : ∀ b, P b → w'.heap[b]? = w.heap[b]?) (hs : w.heap.size ≤ w'.heap.size) : DocW w' P A c l :=
  ⟨h.nc, h.cm, h.row.imp id (fun ⟨ad, e, hp, hc⟩ => ⟨ad, e, hp, fun j u hj => (World.cell?_of_block (by rw [block_of_add]; exact hk _ hp)).trans (hc j u hj)⟩), fun p hp => (h.allp p hp).keep hk, fun b hb => Nat.lt_of_lt_of_le (h.lt b hb) hs⟩
theorem DocW.below (h : DocW w P A c l) (hb : Below w.heap.size w w') : DocW w' P A c l := h.keep (fun b hP => hb.block b (h.lt b hP)) hb.size
theorem DocW.more (h : DocW w P A c l) (hP : ∀ b, P b → P' b) (hl : ∀ b, P' b → b < w.heap.size) : DocW w P' A c l :=
  ⟨h.nc, h.cm, h.row.imp id (fun ⟨ad, e, hp, hc⟩ => ⟨ad, e, hP _ hp, hc⟩), fun p hp => (h.allp p hp).more hP, hl⟩
theorem DocW.toPts (h : DocW w P A c l) : Pts w w.heap.size A l.length l :=
  ⟨⟨pts_len l, fun h0 => by
    rcases h.row with ⟨_, _, e⟩ | ⟨ad, e, hp, hc⟩
    · rw [e] at h0
      simp at h0
    · exact ⟨ad, e, h.lt _ hp, hc⟩⟩, fun p hp => ⟨⟨(h.allp p hp).reads h.lt, by rw [(h.allp p hp).len]; exact (h.allp p hp).max⟩, (h.allp p hp).wf⟩⟩
theorem DocW.nil (hl : ∀ b, P b → b < w.heap.size) : DocW w P none 0 [] := ⟨by simp, by decide, .inl ⟨rfl, rfl, rfl⟩, fun p hp => by simp at hp, hl⟩
/-- A row of the call's own, of such points. -/
theorem DocW.of_own {base : Nat} {n : Nat} (ho : w.ownsRow base 37 2 (.slice A n c) n (pts l)) (hn : n = l.length) (hp : ∀ p ∈ l, PtIn w P p) (hl : ∀ b, P b → b < w.heap.size) (hP : ∀ g, base ≤ g → g < w.heap.size → P g) : DocW w P A c l := by
  subst hn
  rcases ho.2 with ⟨e, e2⟩ | ⟨g, cap, cur, e, h1, h2, h3, h4, h5, h6⟩
  · injection e with e1 _ e3
    subst e1 e3
    have : l = [] := List.eq_nil_of_length_eq_zero e2
    subst this
    exact DocW.nil hl
  · injection e with e1 _ e3
    subst e1 e3
    have hlt := (ho.lt g rfl)
    exact ⟨h3, h4, .inr ⟨_, rfl, hP _ hlt.1 hlt.2, ho.cells (g := g) rfl⟩, hp, hl⟩
end
theorem pts_take (l : List Pt) (k : Nat) : (pts l).take (k * 2) = pts (l.take k) := by
  induction l generalizing k with
  | nil => simp [pts]
  | cons t r ih =>
    have e : pts (t :: r) = .int .i64 t.1 :: .slice t.2.1.1 t.2.1.2.1 t.2.1.2.2 :: pts r := by simp [pts, pcell]
    rcases k with _ | k
    · simp [pts]
    · rw [e, show (k + 1) * 2 = k * 2 + 1 + 1 by omega, List.take_succ_cons, List.take_succ_cons, ih]
      simp [pts, pcell]
theorem pts_drop (l : List Pt) (k : Nat) : (pts l).drop (k * 2) = pts (l.drop k) := by
  induction l generalizing k with
  | nil => simp [pts]
  | cons t r ih =>
    have e : pts (t :: r) = .int .i64 t.1 :: .slice t.2.1.1 t.2.1.2.1 t.2.1.2.2 :: pts r := by simp [pts, pcell]
    rcases k with _ | k
    · simp
    · rw [e, show (k + 1) * 2 = k * 2 + 1 + 1 by omega, List.drop_succ_cons, List.drop_succ_cons, ih]
      simp
theorem pts_app (l m : List Pt) : pts (l ++ m) = pts l ++ pts m := by simp [pts]
theorem pts_one (l : List Pt) : ∀ u ∈ pts l, u.oneCell' = true := by
  intro u hu
  obtain ⟨x, _, h⟩ := List.mem_flatMap.1 hu
  exact pcell_one x u h
/-- Where a number stands in a rising list, or would stand. -/
structure Plc (T : List Pnt) (x : Int) (k : Nat) (b : Bool) : Prop where
  le : k ≤ T.length
  lo : ∀ p ∈ T.take k, p.1 < x
  hi : ∀ p ∈ T.drop k, x ≤ p.1
  yes : b = true → ∃ v r, T.drop k = (x, v) :: r ∧ ∀ p ∈ r, x < p.1
  no : b = false → ∀ p ∈ T.drop k, x < p.1
theorem Plc.put {T : List Pnt} {x : Int} {k : Nat} {b : Bool} (h : Plc T x k b) (l : List Int) : putT x l T = T.take k ++ (x, l) :: T.drop (if b = true then k + 1 else k) := by
  have e0 : T = T.take k ++ T.drop k := (List.take_append_drop k T).symm
  cases b with
  | true =>
    obtain ⟨v, r, e, hr⟩ := h.yes rfl
    have e1 : T.drop (k + 1) = r := by rw [← List.drop_drop (i := 1) (j := k), e]; rfl
    rw [if_pos rfl, e1]
    unfold putT
    conv => lhs; rw [e0, e]
    rw [List.filter_append, List.filter_append, List.filter_cons, List.filter_cons, if_neg (by simp), if_neg (by simp),
      List.filter_eq_self.2 (fun p hp => decide_eq_true (h.lo p hp)), List.filter_eq_nil_iff.2 (fun p hp => by have := hr p hp; simp; omega), List.filter_eq_nil_iff.2 (fun p hp => by have := h.lo p hp; simp; omega), List.filter_eq_self.2 (fun p hp => decide_eq_true (hr p hp))]
    simp
  | false =>
    have hr := h.no rfl
    rw [if_neg (by simp)]
    unfold putT
    conv => lhs; rw [e0]
    rw [List.filter_append, List.filter_append,
      List.filter_eq_self.2 (fun p hp => decide_eq_true (h.lo p hp)), List.filter_eq_nil_iff.2 (fun p hp => by have := hr p hp; simp; omega), List.filter_eq_nil_iff.2 (fun p hp => by have := h.lo p hp; simp; omega), List.filter_eq_self.2 (fun p hp => decide_eq_true (hr p hp))]
    simp
theorem Plc.has {T : List Pnt} {x : Int} {k : Nat} {b : Bool} (h : Plc T x k b) : hasT x T = b := by
  have e0 : T = T.take k ++ T.drop k := (List.take_append_drop k T).symm
  cases b with
  | true =>
    obtain ⟨v, r, e, hr⟩ := h.yes rfl
    rw [hasT_iff]
    refine ⟨(x, v), ?_, rfl⟩
    rw [e0, e]
    simp
  | false =>
    rw [Bool.eq_false_iff, Ne, hasT_iff]
    rintro ⟨p, hp, e⟩
    rw [e0] at hp
    rcases List.mem_append.1 hp with hp | hp
    · have := h.lo p hp
      omega
    · have := h.no rfl p hp
      omega
theorem Plc.del {T : List Pnt} {x : Int} {k : Nat} (h : Plc T x k true) : delT x T = T.take k ++ T.drop (k + 1) := by
  have e0 : T = T.take k ++ T.drop k := (List.take_append_drop k T).symm
  obtain ⟨v, r, e, hr⟩ := h.yes rfl
  have e1 : T.drop (k + 1) = r := by rw [← List.drop_drop (i := 1) (j := k), e]; rfl
  rw [e1]
  unfold delT
  conv => lhs; rw [e0, e]
  rw [List.filter_append, List.filter_cons, if_neg (by simp), List.filter_eq_self.2 (fun p hp => decide_eq_true (by have := h.lo p hp; omega)), List.filter_eq_self.2 (fun p hp => decide_eq_true (by have := hr p hp; omega))]
theorem Plc.del_no {T : List Pnt} {x : Int} {k : Nat} (h : Plc T x k false) : delT x T = T := by
  unfold delT
  rw [List.filter_eq_self]
  intro p hp
  refine decide_eq_true (fun e => ?_)
  have := h.has
  rw [Bool.eq_false_iff, Ne, hasT_iff] at this
  exact this ⟨p, hp, e⟩
theorem bare_at {l : List Pt} {k : Nat} (hk : k < l.length) : (l.map bareP)[k]? = some (bareP (ptAt l k)) := by
  unfold ptAt
  rw [List.getElem?_map, List.getD_eq_getElem?_getD, List.getElem?_eq_getElem hk]
  rfl
theorem plc_of {l : List Pt} (hr : Rise (l.map bareP)) {x : Int} {k : Nat} (hk : k ≤ l.length) (h1 : ∀ j, j < k → (ptAt l j).1 < x) (h2 : k < l.length → ¬ (ptAt l k).1 < x) (b : Bool) (hb : b = decide (k < l.length ∧ (ptAt l k).1 = x)) : Plc (l.map bareP) x k b := by
  have hlen : (l.map bareP).length = l.length := List.length_map ..
  have hdrop : k < l.length → (l.map bareP).drop k = bareP (ptAt l k) :: (l.map bareP).drop (k + 1) := fun h => by
    rw [List.drop_eq_getElem_cons (by rw [hlen]; exact h)]
    congr 1
    have := bare_at h
    rw [List.getElem?_eq_getElem (by rw [hlen]; exact h)] at this
    exact Option.some.inj this
  have hafter : k < l.length → ∀ p ∈ (l.map bareP).drop (k + 1), (ptAt l k).1 < p.1 := fun h p hp => by
    have h3 : Rise ((l.map bareP).drop k) := List.Pairwise.drop hr
    rw [hdrop h] at h3
    exact (List.pairwise_cons.1 h3).1 p hp
  have hnone : ¬ k < l.length → (l.map bareP).drop k = [] := fun h => List.drop_eq_nil_of_le (by omega)
  refine ⟨by omega, fun p hp => ?_, fun p hp => ?_, fun hb' => ?_, fun hb' p hp => ?_⟩
  · obtain ⟨j, hj, rfl⟩ := List.mem_iff_getElem.1 hp
    rw [List.length_take] at hj
    have hjl : j < l.length := by omega
    have := bare_at hjl
    rw [List.getElem?_eq_getElem (by omega)] at this
    rw [List.getElem_take, Option.some.inj this]
    exact h1 j (by omega)
  · by_cases h : k < l.length
    · rw [hdrop h] at hp
      have := h2 h
      rcases List.mem_cons.1 hp with rfl | hp
      · show x ≤ (ptAt l k).1
        omega
      · have := hafter h p hp
        omega
    · rw [hnone h] at hp
      simp at hp
  · rw [hb'] at hb
    obtain ⟨h3, h4⟩ := of_decide_eq_true hb.symm
    refine ⟨(ptAt l k).2.2, _, ?_, fun p hp => by have := hafter h3 p hp; omega⟩
    rw [hdrop h3, ← h4]
    rfl
  · by_cases h : k < l.length
    · rw [hb'] at hb
      have hne : ¬ (ptAt l k).1 = x := fun e => by
        have := of_decide_eq_false hb.symm
        exact this ⟨h, e⟩
      have := h2 h
      rw [hdrop h] at hp
      rcases List.mem_cons.1 hp with rfl | hp
      · show x < (ptAt l k).1
        omega
      · have := hafter h p hp
        omega
    · rw [hnone h] at hp
      simp at hp
set_option maxHeartbeats 4000000 in
set_option maxRecDepth 100000 in
theorem place_any {w : World} {A : Option Addr} {c : Nat} {l : List Pt} (h : Pts w w.heap.size A l.length l) (hm : l.length ≤ 1000000) (hr : Rise (l.map bareP)) (x : Int) :
    Calls Try.prog 33 #[.slice A l.length c, .int .i64 x] w fun e w' => ∃ (k : Nat) (b : Bool), e = .returned (.tuple #[.int .i64 (k : Int), .bool b]) ∧ Plc (l.map bareP) x k b ∧ ∃ q, w' = w.drewN q := by
  have HP := Lib.hid h
  have HR := Lib.hid hr
  clear h hr
  generalize hn : l.length = n at *
  have HN := Lib.hid hn
  clear hn
  go_enter Try.func33, Try.ntmps33
  go_wp2_with fail
  go_loopw [6] (fun vi wr => ∃ k : Nat, k ≤ n ∧ vi = .int .i64 k ∧ wr = w ∧ Hid (∀ j, j < k → (ptAt l j).1 < x)) (fun vi _ => n - (intOf vi).toNat)
  case atStart => exact ⟨0, by omega, rfl, rfl, Lib.hid (fun j hj => absurd hj (by omega))⟩
  case round =>
    obtain ⟨k, hk, rfl, hw, HK⟩ := hrel
    have hw : w = wr := hw.symm
    subst hw
    by_cases hlt : k < n
    · have hkz : (k : Int) < (n : Int) := by omega
      obtain ⟨ad, hA, hab, hil, x0, x1, hg⟩ := HP.out.at_ hlt
      subst hA
      have cl : (ad.add (k * 2)).block < w.heap.size := by rw [block_of_add]; exact hab
      have HPL := Lib.hid (fun (h2 : k < l.length → ¬ (ptAt l k).1 < x) (b : Bool) (hb : b = decide (k < l.length ∧ (ptAt l k).1 = x)) => plc_of HR.out (by omega) HK.out h2 b hb)
      have HNX := Lib.hid (show (ptAt l k).1 < x → ∀ j, j < k + 1 → (ptAt l j).1 < x from fun h j hj => by
        rcases Nat.lt_or_ge j k with h' | h'
        · exact HK.out j h'
        · rw [show j = k by omega]
          exact h)
      have HIL := Lib.hid hil
      clear hg x1 hab hil
      generalize (ptAt l k).1 = y at *
      by_cases hyx : y < x
      · have HN2 := Lib.hid (HNX.out hyx)
        go_wp2_with fail
        go_roundw
        case rel => exact ⟨k + 1, by omega, by go_num, trivial, HN2⟩
        case measure => simp [intOf]; omega
      · by_cases hye : y = x
        · have HPL2 := Lib.hid (HPL.out (fun _ => hyx) true (by rw [eq_comm, decide_eq_true_iff]; exact ⟨HIL.out, hye⟩))
          have hb : (y == x) = true := by rw [hye]; simp
          have HYE := Lib.hid hye
          clear hye
          go_wp2_with fail
          go_quiet (fail)
          go_wp2_with fail
          go_ret2
          exact ⟨k, true, rfl, HPL2.out, _, by first | rfl | exact World.drewN_drewN ..⟩
        · have HPL2 := Lib.hid (HPL.out (fun _ => hyx) false (by rw [eq_comm, decide_eq_false_iff_not]; exact fun h => hye h.2))
          have hb : (y == x) = false := by simp [hye]
          go_wp2_with fail
          go_quiet (fail)
          go_wp2_with fail
          go_ret2
          exact ⟨k, false, rfl, HPL2.out, _, by first | rfl | exact World.drewN_drewN ..⟩
    · have hkz : ¬ (k : Int) < (n : Int) := by omega
      have hkz2 : decide ((k : Int) < (n : Int)) = false := decide_eq_false hkz
      have hkn : k = l.length := by have := HN.out; omega
      have HPL2 := Lib.hid (plc_of HR.out (by omega) HK.out (fun h => absurd h (by omega)) false (by rw [eq_comm, decide_eq_false_iff_not]; exact fun h => absurd h.1 (by omega)))
      clear hkn
      go_wp2_with fail
      go_quiet (fail)
      go_wp2_with fail
      go_ret2
      exact ⟨k, false, rfl, HPL2.out, _, by first | rfl | exact World.drewN_drewN ..⟩
end Go.Proofs.Ytkgapieikgniiaa
