/- What top of the document's answers returns. Conditions: the slice reads as a list. -/
import Derived.Test.YtkgapieikgniiaaVSame
import Derived.Test.YtkgapieikgniiaaVIns
import Derived.Deep.RegionHeld3
import Derived.Deep.LoopGhost
set_option linter.unusedVariables false
set_option linter.unusedSimpArgs false
namespace Go.Proofs.Ytkgapieikgniiaa
open Go Go.RowKit
/-- It is of the list, and of those with its number the first. -/
def Best (m : List Hit) (h : Hit) : Prop := h ∈ m ∧ ∀ h' ∈ m, h'.1 = h.1 → hlt h' h = false
theorem best_unique {m : List Hit} {h h' : Hit} (a : Best m h) (b : Best m h') (e : h.1 = h'.1) : h = h' := hlt_total (b.2 h a.1 e) (a.2 h' b.1 e.symm)
theorem hits_snoc (l : List Hit) (h : Hit) : hits (l ++ [h]) = hits l ++ hcell h := by simp [hits]
/-- The best ones of the list, in order. -/
def TopR (l S : List Hit) : Prop := S.Pairwise (fun a b => hlt a b = true) ∧ ∀ h, h ∈ S ↔ Best l h
theorem append_hit {ops : Array Oper} {rest : List Oper} {o : Oper} {a : Act} {Q : Exit → Act → World → Prop} {W : World} (hgd : o.guard = none) (s x : Operand)
    (ho : o.op = .call { callee := .builtin .append, args := #[s, x], argTypes := #[49, 49] })
    (base : Nat) (v : Value) (n : Nat) (l : List Hit) (z : Hit) (hs : a.eval s = v) (hown : W.ownsRow base 57 2 v n (hits l)) (N : Nat) (hN : N = W.heap.size) (hx : a.eval x = .slice (some ⟨N, 0, none⟩) 1 1)
    (hn : n ≤ 1000000000) (hbase : base ≤ W.heap.size)
    (h : ∀ v' w', w'.ownsRow base 57 2 v' (n + 1) (hits (l ++ [z])) → W.grownBy w' v.ownBlock → (v'.ownBlock = v.ownBlock ∨ ∀ k, v'.ownBlock = some k → W.heap.size ≤ k) → wpList Try.prog ops Q rest (a.put o.dst v') w') :
    wpList Try.prog ops Q (o :: rest) a (W.alloc (.cells #[.int .i64 z.1, .int .i64 z.2] 57)) := by
  subst hN
  obtain ⟨i0, hi, hz0, hz1, hz2⟩ := info_parts hit_row
  refine append_new hgd s x 49 57 57 ho base i0 (hitV (0, 0)) 2 16 Try.underlying49 hi hz0 hz1 hz2 rfl (by decide) (by decide) v n (hits l) hs hown hx #[.int .i64 z.1, .int .i64 z.2] rfl (by intro u hu; simp at hu; rcases hu with rfl | rfl <;> rfl) hn hbase (fun v' w' h1 h2 h3 => ?_)
  refine h v' w' ?_ h2 h3
  rw [hits_snoc]
  exact h1
def anyId (xs : List Hit) (x : Int) : Bool := xs.any fun y => y.1 == x
theorem anyId_nil (x : Int) : anyId [] x = false := rfl
theorem anyId_snoc (xs : List Hit) (y : Hit) (x : Int) : anyId (xs ++ [y]) x = (anyId xs x || (y.1 == x)) := by unfold anyId; simp
theorem anyId_false {xs : List Hit} {x : Int} (h : anyId xs x = false) {y : Hit} (hy : y ∈ xs) : y.1 ≠ x := by
  intro e
  have : anyId xs x = true := List.any_eq_true.2 ⟨y, hy, by simp [e]⟩
  rw [h] at this
  cases this
theorem anyId_of {xs : List Hit} {x : Int} (h : ∀ y ∈ xs, y.1 ≠ x) : anyId xs x = false := by
  rw [Bool.eq_false_iff]
  intro hc
  obtain ⟨y, hy, e⟩ := List.any_eq_true.1 hc
  exact h y hy (by simpa using e)
/-- Of the first i, those that are not out yet: none, or b is the first of them. -/
def Bst (l out : List Hit) (i : Nat) (bz : Int) : Prop :=
  (bz = -1 ∧ ∀ p, p < i → anyId out (l.getD p (0, 0)).1 = true) ∨
  (∃ b : Nat, bz = (b : Int) ∧ b < i ∧ anyId out (l.getD b (0, 0)).1 = false ∧ ∀ p, p < i → anyId out (l.getD p (0, 0)).1 = false → hlt (l.getD p (0, 0)) (l.getD b (0, 0)) = false)
theorem Bst.start (l out : List Hit) : Bst l out 0 (-1) := .inl ⟨rfl, fun p hp => by omega⟩
theorem Bst.skip {l out : List Hit} {i : Nat} {bz : Int} (h : Bst l out i bz) (ht : anyId out (l.getD i (0, 0)).1 = true) : Bst l out (i + 1) bz := by
  rcases h with ⟨rfl, h⟩ | ⟨b, rfl, hb, h1, h2⟩
  · refine .inl ⟨rfl, fun p hp => ?_⟩
    by_cases hpi : p = i
    · subst hpi
      exact ht
    · exact h p (by omega)
  · refine .inr ⟨b, rfl, by omega, h1, fun p hp ha => ?_⟩
    by_cases hpi : p = i
    · subst hpi
      rw [ht] at ha
      cases ha
    · exact h2 p (by omega) ha
theorem Bst.first {l out : List Hit} {i : Nat} (h : Bst l out i (-1)) (ht : anyId out (l.getD i (0, 0)).1 = false) : Bst l out (i + 1) (i : Int) := by
  rcases h with ⟨_, h⟩ | ⟨b, hb, _⟩
  · refine .inr ⟨i, rfl, by omega, ht, fun p hp ha => ?_⟩
    by_cases hpi : p = i
    · subst hpi
      exact hlt_irrefl _
    · rw [h p (by omega)] at ha
      cases ha
  · omega
theorem Bst.take {l out : List Hit} {i b : Nat} (h : Bst l out i (b : Int)) (ht : anyId out (l.getD i (0, 0)).1 = false) (hl : hlt (l.getD i (0, 0)) (l.getD b (0, 0)) = true) : Bst l out (i + 1) (i : Int) := by
  rcases h with ⟨e, _⟩ | ⟨b', e, hb, h1, h2⟩
  · omega
  · obtain rfl : b = b' := by omega
    refine .inr ⟨i, rfl, by omega, ht, fun p hp ha => ?_⟩
    by_cases hpi : p = i
    · subst hpi
      exact hlt_irrefl _
    · have h3 := h2 p (by omega) ha
      cases hc : hlt (l.getD p (0, 0)) (l.getD i (0, 0)) with
      | false => rfl
      | true =>
        rw [hlt_trans hc hl] at h3
        cases h3
theorem Bst.leave {l out : List Hit} {i b : Nat} (h : Bst l out i (b : Int)) (hl : hlt (l.getD i (0, 0)) (l.getD b (0, 0)) = false) : Bst l out (i + 1) (b : Int) := by
  rcases h with ⟨e, _⟩ | ⟨b', e, hb, h1, h2⟩
  · omega
  · obtain rfl : b = b' := by omega
    refine .inr ⟨b, rfl, by omega, h1, fun p hp ha => ?_⟩
    by_cases hpi : p = i
    · subst hpi
      exact hl
    · exact h2 p (by omega) ha
theorem Bst.lt {l out : List Hit} {i : Nat} {bz : Int} (h : Bst l out i bz) (h0 : ¬ bz < 0) : ∃ b : Nat, bz = (b : Int) ∧ b < i := by
  rcases h with ⟨e, _⟩ | ⟨b, e, hb, _⟩
  · omega
  · exact ⟨b, e, hb⟩
theorem getD_mem' {l : List Hit} {k : Nat} (h : k < l.length) : l.getD k (0, 0) ∈ l := by
  rw [List.getD_eq_getElem?_getD, List.getElem?_eq_getElem h]
  exact List.getElem_mem h
theorem mem_getD {l : List Hit} {x : Hit} (h : x ∈ l) : ∃ p, p < l.length ∧ l.getD p (0, 0) = x := by
  obtain ⟨p, hp, e⟩ := List.getElem_of_mem h
  exact ⟨p, hp, by rw [List.getD_eq_getElem?_getD, List.getElem?_eq_getElem hp, ← e]; rfl⟩
/-- In the sorted list an id stands once. -/
theorem top_ids {l S : List Hit} (h : TopR l S) {a b : Hit} (ha : a ∈ S) (hb : b ∈ S) (e : a.1 = b.1) : a = b := best_unique ((h.2 a).1 ha) ((h.2 b).1 hb) e
theorem next_out {l S : List Hit} {o : Nat} (h : TopR l S) (ho : o < S.length) : anyId (S.take o) (S.getD o (0, 0)).1 = false := by
  refine anyId_of fun y hy e => ?_
  have hm := getD_mem' ho
  have e2 := top_ids h (List.mem_of_mem_take hy) hm e
  obtain ⟨p, hp, ep⟩ := List.getElem_of_mem hy
  rw [List.length_take] at hp
  rw [List.getElem_take] at ep
  have h3 := (List.pairwise_iff_getElem.1 h.1) p o (by omega) ho (by omega)
  rw [ep, e2, List.getD_eq_getElem?_getD, List.getElem?_eq_getElem ho] at h3
  simp only [Option.getD_some] at h3
  rw [hlt_irrefl] at h3
  cases h3
theorem Bst.none_ {l S : List Hit} {o : Nat} {bz : Int} (h : TopR l S) (hb : Bst l (S.take o) l.length bz) (h0 : bz < 0) : S.length ≤ o := by
  rcases hb with ⟨_, hb⟩ | ⟨b, e, _⟩
  · rcases Nat.lt_or_ge o S.length with ho | ho
    · obtain ⟨p, hp, e⟩ := mem_getD ((h.2 _).1 (getD_mem' ho)).1
      have h1 := hb p hp
      rw [e, next_out h ho] at h1
      cases h1
    · exact ho
  · omega
theorem Bst.some_ {l S : List Hit} {o b : Nat} (h : TopR l S) (hb : Bst l (S.take o) l.length (b : Int)) : b < l.length ∧ o < S.length ∧ l.getD b (0, 0) = S.getD o (0, 0) := by
  rcases hb with ⟨e, _⟩ | ⟨b', e, hbl, h1, h2⟩
  · omega
  · obtain rfl : b = b' := by omega
    have hbest : Best l (l.getD b (0, 0)) := by
      refine ⟨getD_mem' hbl, fun h' hm he => ?_⟩
      obtain ⟨p, hp, ep⟩ := mem_getD hm
      have := h2 p hp (by rw [ep, he]; exact h1)
      rw [ep] at this
      exact this
    obtain ⟨p, hp, ep⟩ := List.getElem_of_mem ((h.2 _).2 hbest)
    have hpo : o ≤ p := by
      rcases Nat.lt_or_ge p o with hlt' | hge
      · exfalso
        have hm : S[p] ∈ S.take o := by
          rw [List.mem_take_iff_getElem]
          exact ⟨p, by omega, rfl⟩
        exact anyId_false h1 hm (by rw [ep])
      · exact hge
    have ho : o < S.length := by omega
    refine ⟨hbl, ho, ?_⟩
    have hSo : S.getD o (0, 0) = S[o] := by rw [List.getD_eq_getElem?_getD, List.getElem?_eq_getElem ho]; rfl
    by_cases hpe : p = o
    · subst hpe
      rw [hSo, ep]
    · exfalso
      have h3 := (List.pairwise_iff_getElem.1 h.1) o p ho hp (by omega)
      obtain ⟨q, hq, eq⟩ := mem_getD ((h.2 _).1 (getD_mem' ho)).1
      have h4 := h2 q hq (by rw [eq]; exact next_out h ho)
      rw [eq, hSo, ← ep, h3] at h4
      cases h4

theorem own_hit_at {w : World} {base : Nat} {A : Option Addr} {m cap k : Nat} {l : List Hit} (h : w.ownsRow base 57 2 (.slice A m cap) m (hits l)) (hk : k < m) : ∃ ad, A = some ad ∧ k < l.length ∧ w.cell? (ad.add (k * 2)) = some (.int .i64 (l.getD k (0, 0)).1) ∧ w.cell? ⟨(ad.add (k * 2)).block, (ad.add (k * 2)).off + 1, none⟩ = some (.int .i64 (l.getD k (0, 0)).2) := by
  obtain ⟨ad, e, _, h1, h2, h3⟩ := (Reads.of_own h).hit_at hk
  exact ⟨ad, e, h1, h2, h3⟩
theorem drewN_three (w : World) (p q : Nat) : (w.drewN p).drewN q = w.drewN (p + q) := World.drewN_drewN ..
theorem four_keep {W w5 : World} {B : Nat} {ad : Addr} {i b : Nat} {X Z : Hit} (hb : Below B W w5) (h : ∀ j, (ad.add j).block < B)
    (x0 : W.cell? (ad.add (i * 2)) = some (.int .i64 X.1)) (x1 : W.cell? ⟨(ad.add (i * 2)).block, (ad.add (i * 2)).off + 1, none⟩ = some (.int .i64 X.2)) (z0 : W.cell? (ad.add (b * 2)) = some (.int .i64 Z.1)) (z1 : W.cell? ⟨(ad.add (b * 2)).block, (ad.add (b * 2)).off + 1, none⟩ = some (.int .i64 Z.2)) :
    w5.cell? (ad.add (i * 2)) = some (.int .i64 X.1) ∧ w5.cell? ⟨(ad.add (i * 2)).block, (ad.add (i * 2)).off + 1, none⟩ = some (.int .i64 X.2) ∧ w5.cell? (ad.add (b * 2)) = some (.int .i64 Z.1) ∧ w5.cell? ⟨(ad.add (b * 2)).block, (ad.add (b * 2)).off + 1, none⟩ = some (.int .i64 Z.2) :=
  ⟨(hb.cell (h _)).trans x0, (hb.cell (p := ⟨(ad.add (i * 2)).block, (ad.add (i * 2)).off + 1, none⟩) (h (i * 2))).trans x1, (hb.cell (h _)).trans z0, (hb.cell (p := ⟨(ad.add (b * 2)).block, (ad.add (b * 2)).off + 1, none⟩) (h (b * 2))).trans z1⟩
def RTopPost (S : List Hit) (k : Nat) (w : World) (e : Ending) (w' : World) : Prop := ∃ v m, e = .returned v ∧ w'.ownsRow w.heap.size 57 2 v m (hits (S.take k)) ∧ Below w.heap.size w w'
set_option maxHeartbeats 8000000 in
set_option maxRecDepth 100000 in
theorem rtop_any (A : Option Addr) (n c : Nat) (l S : List Hit) (k : Nat) (w : World) (hx : Reads w w.heap.size 2 A n (hits l)) (hT : TopR l S) (hn : n ≤ 1000000) (hk : k ≤ 64) : Calls Try.prog 50 #[.slice A n c, .int .i64 k] w (RTopPost S k w) := by
  have HL := Lib.hid hx.hits_len
  have HX := Lib.hid hx
  have HT := Lib.hid hT
  clear hx hT
  go_enter Try.func50, Try.ntmps50
  go_wp2_with fail
  go_loopg [5] k (fun gx v wr => ∃ o : Nat, k - o ≤ gx ∧ o ≤ k ∧ o ≤ S.length ∧ wr.ownsRow w.heap.size 57 2 v o (hits (S.take o)) ∧ Below w.heap.size w wr)
  case atStart => exact ⟨0, by omega, by omega, by omega, World.ownsRow_nil .., Below.refl _ _⟩
  case round =>
    obtain ⟨o, hgx, hok, hoS, hown, hb⟩ := hrel
    obtain ⟨A5, c5, rfl, hq1, hq2⟩ := own_shape hown
    by_cases hlt0 : o < k
    · have hltz : (o : Int) < (k : Int) := by omega
      have HOWN := Lib.hid hown
      have HB := Lib.hid hb
      clear hown hb hq1 hq2
      go_wp2_with fail
      go_loopw [6, 7] (fun vb vi w2 => ∃ (i : Nat) (bz : Int), vb = .int .i64 bz ∧ vi = .int .i64 i ∧ i ≤ n ∧ -1 ≤ bz ∧ bz < (n : Int) + 1 ∧ Hid (Bst l (S.take o) i bz) ∧ w2.ownsRow w.heap.size 57 2 (.slice A5 o c5) o (hits (S.take o)) ∧ Below w.heap.size w w2) (fun _ vi _ => n - (intOf vi).toNat)
      case atStart => exact ⟨0, -1, rfl, rfl, by omega, by omega, by omega, Lib.hid (Bst.start _ _), HOWN.out, HB.out⟩
      case round =>
        obtain ⟨i, bz, rfl, rfl, hi, hbz1, hbz2, HBST, hown, hb⟩ := hrel
        clear HOWN HB
        by_cases hin : i < n
        · have hinz : (i : Int) < (n : Int) := by omega
          have HOWN := Lib.hid hown
          have HB := Lib.hid hb
          clear hown hb
          go_wp2_with fail
          go_loopw [8, 9] (fun vt vj w3 => ∃ (j q : Nat), vj = .int .i64 j ∧ j ≤ o ∧ vt = .bool (anyId ((S.take o).take j) (l.getD i (0, 0)).1) ∧ w3 = wr.drewN q) (fun _ vj _ => o - (intOf vj).toNat)
          case atStart => exact ⟨0, 0, rfl, by omega, rfl, rfl⟩
          case round =>
            obtain ⟨j, q, rfl, hj, rfl, rfl⟩ := hrel
            by_cases hjo : j < o
            · have hjz : (j : Int) < (o : Int) := by omega
              obtain ⟨ad5, rfl, hjl, y0, y1⟩ := own_hit_at HOWN.out hjo
              obtain ⟨ad, rfl, _, hil, x0, x1⟩ := (HX.out.below HB.out).hit_at hin
              have hsn := take_hit (S.take o) j hjl
              have HSN := Lib.hid (show anyId ((S.take o).take (j + 1)) (l.getD i (0, 0)).1 = (anyId ((S.take o).take j) (l.getD i (0, 0)).1 || (((S.take o).getD j (0, 0)).1 == (l.getD i (0, 0)).1)) by rw [hsn, anyId_snoc])
              clear hsn y1 x1
              generalize (S.take o).getD j (0, 0) = Y at *
              generalize hXe : l.getD i (0, 0) = X at *
              have HXE := Lib.hid hXe
              clear hXe
              cases ht : anyId ((S.take o).take j) X.1 with
              | true =>
                rw [ht] at HSN
                clear ht
                go_wp2_with fail
                go_quiet (fail)
                go_wp2_with fail
                go_roundw
                case rel => exact ⟨j + 1, _, by go_num, by omega, by rw [HSN.out]; rfl, rfl⟩
                case measure => simp [intOf]; omega
              | false =>
                rw [ht] at HSN
                clear ht
                go_wp2_with fail
                go_quiet (fail)
                go_wp2_with fail
                go_roundw
                case rel => exact ⟨j + 1, _, by go_num, by omega, by rw [HSN.out]; rfl, rfl⟩
                case measure => simp [intOf]; omega
            · have hjz : ¬ (j : Int) < (o : Int) := by omega
              have hjo2 : (S.take o).take j = S.take o := List.take_of_length_le (by rw [List.length_take]; omega)
              rw [hjo2]
              have HOWN2 := Lib.hid (show (wr.drewN q).ownsRow w.heap.size 57 2 (.slice A5 o c5) o (hits (S.take o)) from HOWN.out)
              have HB2 := Lib.hid (below_drewN HB.out q)
              clear hjo2
              cases ht : anyId (S.take o) (l.getD i (0, 0)).1 with
              | true =>
                have HB3 := Lib.hid (HBST.out.skip ht)
                clear ht
                go_wp2_with fail
                go_quiet (fail)
                go_wp2_with fail
                go_roundw
                case rel => exact ⟨i + 1, bz, rfl, by go_num, by omega, hbz1, hbz2, HB3, HOWN.out, below_drewN HB.out _⟩
                case measure => simp [intOf]; omega
              | false =>
                by_cases hb0 : bz < 0
                · obtain rfl : bz = -1 := by omega
                  have HB3 := Lib.hid (HBST.out.first ht)
                  clear ht
                  go_wp2_with fail
                  go_quiet (fail)
                  go_wp2_with fail
                  go_roundw
                  case rel => exact ⟨i + 1, (i : Int), rfl, by go_num, by omega, by omega, by omega, HB3, HOWN.out, below_drewN HB.out _⟩
                  case measure => simp [intOf]; omega
                · obtain ⟨b, rfl, hbi⟩ := HBST.out.lt hb0
                  obtain ⟨ad, rfl, had, hil, x0, x1⟩ := (HX.out.below HB.out).hit_at hin
                  obtain ⟨ad', e', _, hbl, z0, z1⟩ := (HX.out.below HB.out).hit_at (show b < n by omega)
                  injection e' with e'
                  subst e'
                  have hle := rless_any (l.getD i (0, 0)) (l.getD b (0, 0))
                  have hbn : (b : Int) < (n : Int) := by omega
                  have HAD : Hid (∀ j, (ad.add j).block < wr.heap.size) := Lib.hid (fun j => by rw [block_of_add]; have := HB.out.size; omega)
                  clear had
                  cases hv : hlt (l.getD i (0, 0)) (l.getD b (0, 0)) with
                  | true =>
                    have HB3 := Lib.hid (HBST.out.take ht hv)
                    rw [hv] at hle
                    unfold hitV at hle
                    have HLE := Lib.hid hle
                    clear ht hv hle HBST
                    generalize l.getD i (0, 0) = X at *
                    generalize l.getD b (0, 0) = Z at *
                    go_wp2_with fail
                    go_region_held3 (fun w' => w'.cell? (ad.add (i * 2)) = some (.int .i64 X.1) ∧ w'.cell? ⟨(ad.add (i * 2)).block, (ad.add (i * 2)).off + 1, none⟩ = some (.int .i64 X.2) ∧ w'.cell? (ad.add (b * 2)) = some (.int .i64 Z.1) ∧ w'.cell? ⟨(ad.add (b * 2)).block, (ad.add (b * 2)).off + 1, none⟩ = some (.int .i64 Z.2))
                      (first | exact ⟨x0, x1, z0, z1⟩ | exact four_keep hb5 HAD.out x0 x1 z0 z1)
                      ((go_at_call 60; refine (HLE.out _).mono ?_; rintro e w5 ⟨rfl, hb5⟩))
                    have hbw : Below wr.heap.size wr w5 := (below_drewN (Below.refl _ wr) _).trans hb5
                    have HOWN3 := Lib.hid (keep_none HOWN.out hbw)
                    have HB5 := Lib.hid (HB.out.trans (hbw.mono HB.out.size))
                    clear hb5 hbw
                    go_wp2_with fail
                    go_roundw
                    case rel => exact ⟨i + 1, (i : Int), rfl, by go_num, by omega, by omega, by omega, HB3, HOWN3.out, HB5.out⟩
                    case measure => simp [intOf]; omega
                  | false =>
                    have HB3 := Lib.hid (HBST.out.leave hv)
                    rw [hv] at hle
                    unfold hitV at hle
                    have HLE := Lib.hid hle
                    clear ht hv hle HBST
                    generalize l.getD i (0, 0) = X at *
                    generalize l.getD b (0, 0) = Z at *
                    go_wp2_with fail
                    go_region_held3 (fun w' => w'.cell? (ad.add (i * 2)) = some (.int .i64 X.1) ∧ w'.cell? ⟨(ad.add (i * 2)).block, (ad.add (i * 2)).off + 1, none⟩ = some (.int .i64 X.2) ∧ w'.cell? (ad.add (b * 2)) = some (.int .i64 Z.1) ∧ w'.cell? ⟨(ad.add (b * 2)).block, (ad.add (b * 2)).off + 1, none⟩ = some (.int .i64 Z.2))
                      (first | exact ⟨x0, x1, z0, z1⟩ | exact four_keep hb5 HAD.out x0 x1 z0 z1)
                      ((go_at_call 60; refine (HLE.out _).mono ?_; rintro e w5 ⟨rfl, hb5⟩))
                    have hbw : Below wr.heap.size wr w5 := (below_drewN (Below.refl _ wr) _).trans hb5
                    have HOWN3 := Lib.hid (keep_none HOWN.out hbw)
                    have HB5 := Lib.hid (HB.out.trans (hbw.mono HB.out.size))
                    clear hb5 hbw
                    go_wp2_with fail
                    go_roundw
                    case rel => exact ⟨i + 1, (b : Int), rfl, by go_num, by omega, by omega, by omega, HB3, HOWN3.out, HB5.out⟩
                    case measure => simp [intOf]; omega
        · have hinz : ¬ (i : Int) < (n : Int) := by omega
          have hi2 : i = l.length := by rw [← HL.out]; omega
          rw [hi2] at HBST
          by_cases hb0 : bz < 0
          · have hno := HBST.out.none_ HT.out hb0
            have hfull : S.take o = S.take k := by rw [List.take_of_length_le hno, List.take_of_length_le (by omega)]
            rw [hfull] at hown
            have HF := Lib.hid (And.intro hown hb)
            clear hown hb hno hfull hi2
            go_wp2_with fail
            go_ret
            exact ⟨_, o, rfl, HF.out.1, HF.out.2⟩
          · obtain ⟨b, rfl, hbi⟩ := HBST.out.lt hb0
            obtain ⟨hbl, hoS2, heq⟩ := HBST.out.some_ HT.out
            obtain ⟨ad, rfl, _, _, x0, x1⟩ := (HX.out.below hb).hit_at (show b < n by have := HL.out; omega)
            have hbn : (b : Int) < (n : Int) := by have := HL.out; omega
            have hsn := take_hit S o hoS2
            rw [← heq] at hsn
            have HSN := Lib.hid hsn
            have HOWN := Lib.hid hown
            have HB := Lib.hid hb
            have hbs := hb.size
            clear hsn heq hown hb hi2 HBST hbi hbl
            generalize l.getD b (0, 0) = X at *
            go_wp2_with (at_builtin; refine append_hit rfl (.tmp 61) (.tmp 66) rfl w.heap.size _ o (S.take o) X rfl HOWN.out _ (by simp) rfl (by omega) hbs ?_; intro v2 w2 hown2 hg2 hv2)
            go_roundg (k - (o + 1))
            case measure => omega
            case rel => exact ⟨o + 1, Nat.le_refl _, by omega, by omega, by rw [HSN.out]; exact hown2, HB.out.trans (below_own HOWN.out hg2 hbs)⟩
    · have hltz : ¬ (o : Int) < (k : Int) := by omega
      obtain rfl : o = k := by omega
      have HF := Lib.hid (And.intro hown hb)
      clear hown hb
      go_wp2_with fail
      go_ret
      exact ⟨_, o, rfl, HF.out.1, HF.out.2⟩
end Go.Proofs.Ytkgapieikgniiaa
