/- A tick of the document's wheel. Conditions: its numbers and ticks read as lists as long as each other. -/
import Derived.Test.YtfojempmgonahaaWhRSetA
import Derived.Test.YtfojempmgonahaaWhLawL
import Derived.Deep.AppendLies
set_option linter.unusedVariables false
set_option linter.unusedSimpArgs false
set_option maxRecDepth 100000
namespace Go.Proofs.Ytfojempmgonahaa.Wh
open Go Go.RowKit
theorem tick_snoc : ∀ (l m : List Int) (a b : Int), l.length = m.length → tickL (l ++ [a]) (m ++ [b]) = if b = 1 then ((tickL l m).1, (tickL l m).2.1, (tickL l m).2.2 ++ [a]) else ((tickL l m).1 ++ [a], (tickL l m).2.1 ++ [b - 1], (tickL l m).2.2)
  | [], [], a, b, _ => by simp [tickL]
  | [], y :: m, a, b, h => by simp at h
  | x :: l, [], a, b, h => by simp at h
  | x :: l, y :: m, a, b, h => by
    have ih := tick_snoc l m a b (by simpa using h)
    rw [List.cons_append, List.cons_append]
    unfold tickL
    simp only
    rw [ih]
    by_cases hb : b = 1 <;> by_cases hy : y = 1 <;> simp [hb, hy]
theorem tick_len : ∀ (l m : List Int), (tickL l m).1.length = (tickL l m).2.1.length ∧ (tickL l m).1.length ≤ l.length ∧ (tickL l m).2.2.length ≤ l.length
  | [], m => by simp [tickL]
  | x :: l, [] => by simp [tickL]
  | x :: l, y :: m => by
    have ih := tick_len l m
    unfold tickL
    simp only
    split <;> simp <;> omega
/-- The wheel that Tick of the document's makes, and what ran out, in memory. -/
structure TK (w wr : World) (base : Nat) (bx : List Value) (vi vl vo : Value) (xi xl xo : List Int) : Prop where
  box : Row wr w.heap.size 27 bx
  res : Row wr (w.heap.size + 1) 27 [.slice none 0 0, .slice none 0 0]
  nw : Row wr (w.heap.size + 1 + 1) 27 [vi, vl]
  fam : Fam wr base 3 1 [(vi, xi.length, ints xi), (vl, xl.length, ints xl), (vo, xo.length, ints xo)]
  below : Below w.heap.size w wr
  lt : w.heap.size + 1 + 1 < base
  sz : base ≤ wr.heap.size
section
variable {w wr w2 w3 : World} {base : Nat} {bx : List Value} {vi vl vo v' : Value} {xi xl xo : List Int} {z : Int}
theorem TK.on (h : TK w wr base bx vi vl vo xi xl xo) (hb : Below wr.heap.size wr w2) : TK w w2 base bx vi vl vo xi xl xo :=
  ⟨h.box.keep (hb.block _ h.box.lt), h.res.keep (hb.block _ h.res.lt), h.nw.keep (hb.block _ h.nw.lt), h.fam.below hb, h.below.trans (hb.mono h.below.size), h.lt, Nat.le_trans h.sz hb.size⟩
/-- Behind an append to one of the rows. -/
theorem TK.mid (h : TK w w2 base bx vi vl vo xi xl xo) {v : Value} {n : Nat} {xs : List Value} (hv : w2.ownsRow base 3 1 v n xs) (hg : w2.grownBy w3 v.ownBlock) :
    Row w3 w.heap.size 27 bx ∧ Row w3 (w.heap.size + 1) 27 [.slice none 0 0, .slice none 0 0] ∧ Row w3 (w.heap.size + 1 + 1) 27 [vi, vl] ∧ Below w.heap.size w w3 ∧ base ≤ w3.heap.size := by
  have hb := below_own hv hg h.sz
  have hl := h.lt
  exact ⟨h.box.keep (hb.block _ (by omega)), h.res.keep (hb.block _ (by omega)), h.nw.keep (hb.block _ hl), h.below.trans (hb.mono (by omega)), Nat.le_trans h.sz hb.size⟩
theorem fam_set {L : List (Value × Nat × List Value)} (h : Fam w3 base 3 1 L) {a : Addr} (ha : a.block < base) (u : Value) : Fam (w3.setCell a u) base 3 1 L :=
  ⟨fun p hp => own_keep (h.1 p hp) fun g hg => heap_set_ne _ _ _ (by have := ((h.1 p hp).lt g hg).1; omega), h.2⟩
theorem TK.ids (h : TK w w2 base bx vi vl vo xi xl xo) (ho : w3.ownsRow base 3 1 v' (xi.length + 1) (ints xi ++ [.int .i64 z])) (hg : w2.grownBy w3 vi.ownBlock) (hl : v'.ownBlock = vi.ownBlock ∨ ∀ k, v'.ownBlock = some k → w2.heap.size ≤ k) :
    TK w (w3.setCell ⟨w.heap.size + 1 + 1, 0, none⟩ v') base bx v' vl vo (xi ++ [z]) xl xo := by
  obtain ⟨m1, m2, m3, m4, m5⟩ := h.mid (h.fam.own (v := vi) (n := xi.length) (xs := ints xi) (by simp)) hg
  have hF := Fam.step (L1 := []) h.fam (n' := xi.length + 1) (xs' := ints (xi ++ [z])) (by rw [← ints_snoc]; exact ho) hg hl
  refine ⟨m1.keep (heap_set_ne _ _ _ (by simp only; omega)), m2.keep (heap_set_ne _ _ _ (by simp only; omega)), m3.set 0 v', ?_, below_setCell m4 (by simp only; omega) _, h.lt, by simpa using m5⟩
  rw [List.length_append]
  exact fam_set hF h.lt _
theorem TK.left (h : TK w w2 base bx vi vl vo xi xl xo) (ho : w3.ownsRow base 3 1 v' (xl.length + 1) (ints xl ++ [.int .i64 z])) (hg : w2.grownBy w3 vl.ownBlock) (hl : v'.ownBlock = vl.ownBlock ∨ ∀ k, v'.ownBlock = some k → w2.heap.size ≤ k) :
    TK w (w3.setCell ⟨w.heap.size + 1 + 1, 1, none⟩ v') base bx vi v' vo xi (xl ++ [z]) xo := by
  obtain ⟨m1, m2, m3, m4, m5⟩ := h.mid (h.fam.own (v := vl) (n := xl.length) (xs := ints xl) (by simp)) hg
  have hF := Fam.step (L1 := [(vi, xi.length, ints xi)]) h.fam (n' := xl.length + 1) (xs' := ints (xl ++ [z])) (by rw [← ints_snoc]; exact ho) hg hl
  refine ⟨m1.keep (heap_set_ne _ _ _ (by simp only; omega)), m2.keep (heap_set_ne _ _ _ (by simp only; omega)), m3.set 1 v', ?_, below_setCell m4 (by simp only; omega) _, h.lt, by simpa using m5⟩
  rw [List.length_append]
  exact fam_set hF h.lt _
theorem TK.out (h : TK w w2 base bx vi vl vo xi xl xo) (ho : w3.ownsRow base 3 1 v' (xo.length + 1) (ints xo ++ [.int .i64 z])) (hg : w2.grownBy w3 vo.ownBlock) (hl : v'.ownBlock = vo.ownBlock ∨ ∀ k, v'.ownBlock = some k → w2.heap.size ≤ k) :
    TK w w3 base bx vi vl v' xi xl (xo ++ [z]) := by
  obtain ⟨m1, m2, m3, m4, m5⟩ := h.mid (h.fam.own (v := vo) (n := xo.length) (xs := ints xo) (by simp)) hg
  have hF := Fam.step (L1 := [(vi, xi.length, ints xi), (vl, xl.length, ints xl)]) (L2 := []) h.fam (n' := xo.length + 1) (xs' := ints (xo ++ [z])) (by rw [← ints_snoc]; exact ho) hg hl
  refine ⟨m1, m2, m3, ?_, m4, h.lt, m5⟩
  rw [List.length_append]
  exact hF
end
theorem news_one (W : World) (x : Int) : ∀ j u, [Value.int .i64 x][j]? = some u → (W.alloc (.cells #[.int .i64 x] 3)).cell? ((⟨W.heap.size, 0, none⟩ : Addr).add j) = some u := news_cells W #[.int .i64 x] 3
theorem own_drewN {w : World} {base : Nat} {e : TypeId} {size : Nat} {v : Value} {n : Nat} {xs : List Value} (h : w.ownsRow base e size v n xs) (q : Nat) : (w.drewN q).ownsRow base e size v n xs := h
/-- How Tick of the document's is to end. -/
def QTickPost (q : Q) (w : World) (e : Ending) (w' : World) : Prop := ∃ A n c A2 n2 c2 A3 n3 c3, e = .returned (.tuple #[.agg #[.slice A n c, .slice A2 n2 c2], .slice A3 n3 c3]) ∧ QAt (tickQ q).1 w' w'.heap.size A n c A2 n2 c2 ∧ Reads w' w'.heap.size 1 A3 n3 (ints (tickQ q).2) ∧ n3 ≤ c3 ∧ c3 ≤ maxLen ∧ Below w.heap.size w w' ∧ Fresh w w' none A ∧ Fresh w w' none A2 ∧ Fresh w w' none A3
set_option maxHeartbeats 4000000 in
theorem rtick_any (q : Q) {w : World} {B : Nat} {A A2 : Option Addr} {n c n2 c2 : Nat} (h : QAt q w B A n c A2 n2 c2) (hB : B ≤ w.heap.size) (hn : n ≤ 1000000) (hlb : ∀ t ∈ q.left, 1 ≤ t ∧ t ≤ 1048576) :
    Calls Try.prog 16 #[.agg #[.slice A n c, .slice A2 n2 c2]] w (QTickPost q w) := by
  obtain ⟨i0, hi, hz0, hz1, hz2⟩ := info_parts int_row
  obtain ⟨hR, hR2, hc, hm1, hc2, hm2, rfl⟩ := h
  have hln := hR.len
  have hln2 := hR2.len
  obtain ⟨W0, hW0⟩ : ∃ W0, W0 = ((w.alloc (.cells #[.slice A n2 c, .slice A2 n2 c2] 27)).alloc (.cells #[.slice none 0 0, .slice none 0 0] 27)) := ⟨_, rfl⟩
  obtain ⟨W, hW⟩ : ∃ W, W = W0.alloc (.cells #[.slice none 0 0, .slice none 0 0] 27) := ⟨_, rfl⟩
  have s0 : W0.heap.size = w.heap.size + 1 + 1 := by rw [hW0]; simp
  have hb0 : Below w.heap.size w W := by rw [hW, hW0]; exact (((Below.refl _ w).alloc (Nat.le_refl _) _).alloc (by simp) _).alloc (by simp; omega) _
  have r1 : Row W w.heap.size 27 [.slice A n2 c, .slice A2 n2 c2] := by
    rw [hW]
    refine Row.keep ?_ (heap_alloc_lt _ _ (by omega))
    rw [hW0]
    exact (Row.new w 27 [.slice A n2 c, .slice A2 n2 c2]).keep (heap_alloc_lt _ _ (by simp))
  have r2 : Row W (w.heap.size + 1) 27 [.slice none 0 0, .slice none 0 0] := by
    rw [hW]
    refine Row.keep ?_ (heap_alloc_lt _ _ (by omega))
    have h := Row.new (w.alloc (.cells #[.slice A n2 c, .slice A2 n2 c2] 27)) 27 [.slice none 0 0, .slice none 0 0]
    rw [World.size_alloc] at h
    rw [hW0]
    exact h
  have r3 : Row W (w.heap.size + 1 + 1) 27 [.slice none 0 0, .slice none 0 0] := by
    have h := Row.new W0 27 [.slice none 0 0, .slice none 0 0]
    rw [s0] at h
    rw [hW]
    exact h
  have hsW : W.heap.size = w.heap.size + 3 := by rw [hW, World.size_alloc, s0]
  have hK : TK w W W.heap.size [.slice A n2 c, .slice A2 n2 c2] (.slice none 0 0) (.slice none 0 0) (.slice none 0 0) [] [] [] :=
    ⟨r1, r2, r3, Fam.none_cons (Fam.none_cons (Fam.none_cons Fam.nil)), hb0, by omega, Nat.le_refl _⟩
  have HK := Lib.hid hK
  have HRD := Lib.hid (fun w1 (hb : Below w.heap.size w w1) => show Reads w1 B 1 A n2 (ints q.ids) ∧ Reads w1 B 1 A2 n2 (ints q.left) ∧ B ≤ w1.heap.size from ⟨hR.below (hb.mono hB), hR2.below (hb.mono hB), Nat.le_trans hB hb.size⟩)
  have HLN := Lib.hid (And.intro hln hln2)
  have HW := Lib.hid (show W = ((w.alloc (.cells #[.slice A n2 c, .slice A2 n2 c2] 27)).alloc (.cells #[.slice none 0 0, .slice none 0 0] 27)).alloc (.cells #[.slice none 0 0, .slice none 0 0] 27) by rw [hW, hW0])
  have HLB := Lib.hid hlb
  clear hW0 hW s0 hb0 r1 r2 r3 hsW hK hR hR2 hln hln2 hlb
  go_enter Try.func16, Try.ntmps16
  go_wp2_with fail
  rw [← HW.out]
  go_loopw [5, 6] (fun s5 s6 wr => ∃ (i : Nat) (vi vl va : Value) (xi xl xo : List Int), s6 = .int .i64 (i : Int) ∧ i ≤ n2 ∧ va = s5 ∧ Hid (tickL (q.ids.take i) (q.left.take i) = (xi, xl, xo)) ∧ TK w wr W.heap.size [.slice A n2 c, .slice A2 n2 c2] vi vl va xi xl xo) (fun _ s6 _ => n2 - (intOf s6).toNat)
  case atStart => exact ⟨0, _, _, _, [], [], [], rfl, Nat.zero_le _, rfl, Lib.hid rfl, HK.out⟩
  case round =>
    obtain ⟨i, vi, vl, va, xi, xl, xo, rfl, hi', rfl, HT, hk⟩ := hrel
    have hb2 := hk.fam.own (v := vi) (n := xi.length) (xs := ints xi) (by simp)
    obtain ⟨Ai, ci, rfl, _, _⟩ := own_shape hb2
    have hb3 := hk.fam.own (v := vl) (n := xl.length) (xs := ints xl) (by simp)
    obtain ⟨Al, cl, rfl, _, _⟩ := own_shape hb3
    have hb4 := hk.fam.own (v := va) (n := xo.length) (xs := ints xo) (by simp)
    obtain ⟨Ao, co, rfl, _, _⟩ := own_shape hb4
    have b0 := hk.box.cell (j := 0) rfl
    have b1 := hk.box.cell (j := 1) rfl
    have bl := hk.box.lt
    obtain ⟨e1, e2, e3⟩ := HRD.out wr hk.below
    have hlens := tick_len (q.ids.take i) (q.left.take i)
    rw [HT.out] at hlens
    simp only at hlens
    have hni : (q.ids.take i).length ≤ i := by rw [List.length_take]; omega
    have hx1 : xi.length ≤ i := by omega
    have hx2 : xl.length ≤ i := by omega
    have hx3 : xo.length ≤ i := by omega
    by_cases hlt : i < n2
    · have hltz : (i : Int) < (n2 : Int) := by omega
      have HS := Lib.hid (show tickL (q.ids.take (i + 1)) (q.left.take (i + 1)) = if q.left.getD i 0 = 1 then (xi, xl, xo ++ [q.ids.getD i 0]) else (xi ++ [q.ids.getD i 0], xl ++ [q.left.getD i 0 - 1], xo) from by
        rw [take_snoc q.ids i (by rw [← HLN.out.1]; exact hlt), take_snoc q.left i (by rw [← HLN.out.2]; exact hlt), tick_snoc _ _ _ _ (by rw [List.length_take, List.length_take, ← HLN.out.1, ← HLN.out.2]), HT.out])
      obtain ⟨ad, rfl, hab, hc0⟩ := e1.int_at hlt
      obtain ⟨ad2, rfl, hab2, hc20⟩ := e2.int_at hlt
      have hal : (ad.add i).block < wr.heap.size := by rw [block_of_add]; omega
      have hal2 : (ad2.add i).block < wr.heap.size := by rw [block_of_add]; omega
      have hlb := HLB.out (q.left.getD i 0) (by
        rw [List.getD_eq_getElem?_getD, List.getElem?_eq_getElem (by rw [← HLN.out.2]; exact hlt)]
        exact List.getElem_mem _)
      generalize q.left.getD i 0 = y at *
      generalize q.ids.getD i 0 = x at *
      have HKK := Lib.hid hk
      have HHT := Lib.hid HT
      have hws : W.heap.size ≤ wr.heap.size := hk.sz
      by_cases hy : y = 1
      · subst hy
        rw [if_pos rfl] at HS
        have HO4 := Lib.hid hb4
        have HNX := Lib.hid (fun w2 w3 v' (hb : Below wr.heap.size wr w2) (ho : w3.ownsRow W.heap.size 3 1 v' (xo.length + 1) (ints xo ++ [.int .i64 x])) (hg : w2.grownBy w3 (Value.slice Ao xo.length co).ownBlock) (hl : v'.ownBlock = (Value.slice Ao xo.length co).ownBlock ∨ ∀ k, v'.ownBlock = some k → w2.heap.size ≤ k) => (HKK.out.on hb).out ho hg hl)
        clear hk hb2 hb3 hb4 e1 e2 hlens hab hab2 HHT
        go_wp2_with (first
          | (at_builtin; refine append_int3 rfl (.tmp 28) (.tmp 34) rfl W.heap.size (.slice Ao xo.length co) xo.length (ints xo) x rfl HO4.out _ rfl rfl (by omega) hws ?_; intro v8 w8 ho8 hg8 hl8; have H8 := Lib.hid (HNX.out wr w8 v8 (Below.refl _ _) ho8 hg8 hl8); clear ho8 hg8 hl8 b0 b1 bl hc0 hc20 hal hal2))
        exact ⟨⟨i + 1, _, _, _, xi, xl, xo ++ [x], by go_num, by omega, rfl, Lib.hid HS.out, H8.out⟩, by simp [intOf]; omega⟩
      · rw [if_neg hy] at HS
        have wy : IntKind.i64.wrap (y - 1) = y - 1 := by rw [IntKind.wrap_i64]; omega
        have n0 := hk.nw.cell (j := 0) rfl
        have n1 := hk.nw.cell (j := 1) rfl
        have nf0 := hk.nw.frozen 0
        have nf1 := hk.nw.frozen 1
        have nl := hk.nw.lt
        have HO2 := Lib.hid hb2
        have hbase := hk.lt
        have HNX := Lib.hid (fun w2 g cap w3 (hb : Below wr.heap.size wr w2) (ho : w3.ownsRow W.heap.size 3 1 (.slice (some ⟨g, 0, none⟩) (xi.length + 1) cap) (xi.length + 1) (ints xi ++ [.int .i64 x])) (hg : w2.grownBy w3 (Value.slice Ai xi.length ci).ownBlock) (hl : (Value.slice Ai xi.length ci).ownBlock = some g ∨ g = w2.heap.size) => show w3.cell? ⟨w.heap.size + 1 + 1, 0, none⟩ = some (.slice Ai xi.length ci) ∧ w3.frozen? ⟨w.heap.size + 1 + 1, 0, none⟩ = false ∧ w.heap.size + 1 + 1 < w3.heap.size ∧ Hid (TK w (w3.setCell ⟨w.heap.size + 1 + 1, 0, none⟩ (.slice (some ⟨g, 0, none⟩) (xi.length + 1) cap)) W.heap.size [.slice (some ad) n2 c, .slice (some ad2) n2 c2] (.slice (some ⟨g, 0, none⟩) (xi.length + 1) cap) (.slice Al xl.length cl) (.slice Ao xo.length co) (xi ++ [x]) xl xo) from by
          have h2 := HKK.out.on hb
          obtain ⟨_, _, m3, _, _⟩ := h2.mid (h2.fam.own (v := .slice Ai xi.length ci) (n := xi.length) (xs := ints xi) (by simp)) hg
          exact ⟨m3.cell rfl, m3.frozen 0, m3.lt, Lib.hid (h2.ids ho hg (hl.imp (fun e => e.symm) (fun e k hk => by simp [Value.ownBlock] at hk; omega)))⟩)
        have hbl2 : (ad2.add i).block < w.heap.size := by rw [block_of_add]; omega
        have HC2 := Lib.hid (fun w5 (hb : Below w.heap.size w w5) => show w5.cell? (ad2.add i) = some (.int .i64 y) ∧ (ad2.add i).block < w5.heap.size from
          ⟨(hb.cell hbl2).trans ((hk.below.cell hbl2).symm.trans hc20), Nat.lt_of_lt_of_le hbl2 hb.size⟩)
        clear hk hb2 hb3 hb4 e1 e2 hlens hab hab2 HHT hbl2
        go_wp2_with fail
        clear hc20 hal2 hy
        go_region_law (refine step_append_lies _ rfl (.tmp 37) (.tmp 43) 25 rfl W.heap.size 3 i0 (.int .i64 0) 1 8 Try.underlying25 hi hz0 hz1 hz2 rfl (by decide) (.slice Ai xi.length ci) xi.length (ints xi) rfl (by first | exact HO2.out.alloc _ | exact (own_drewN HO2.out _).alloc _) _ 1 1 _ rfl rfl (news_one _ x) (by intro u hu; simp at hu; subst hu; rfl) (by decide) (by unfold maxLen; omega) (by omega) (by simp; omega) _ rfl ?_; intro g cap w3 hown3 hgr3 hlies hlt3; obtain ⟨z0, z1, zl, HN⟩ := HNX.out _ g cap w3 ((below_drewN (Below.refl _ wr) _).alloc (Nat.le_refl _) _) hown3 hgr3 hlies; clear hown3 hgr3 hlies hlt3)
        all_goals (
          generalize (w3.setCell ⟨w.heap.size + 1 + 1, 0, none⟩ (.slice (some ⟨g, 0, none⟩) (xi.length + 1) cap)) = w5 at *
          have HK5 := Lib.hid HN.out
          clear HN z0 z1 zl
          have hb5 := HK5.out.fam.own (v := .slice Al xl.length cl) (n := xl.length) (xs := ints xl) (by simp)
          have HO5 := Lib.hid hb5
          have HNX5 := Lib.hid (fun w2 g2 cap2 w3 (hb : Below w5.heap.size w5 w2) (ho : w3.ownsRow W.heap.size 3 1 (.slice (some ⟨g2, 0, none⟩) (xl.length + 1) cap2) (xl.length + 1) (ints xl ++ [.int .i64 (y - 1)])) (hg : w2.grownBy w3 (Value.slice Al xl.length cl).ownBlock) (hl : (Value.slice Al xl.length cl).ownBlock = some g2 ∨ g2 = w2.heap.size) => show w3.cell? ⟨w.heap.size + 1 + 1, 1, none⟩ = some (.slice Al xl.length cl) ∧ w3.frozen? ⟨w.heap.size + 1 + 1, 1, none⟩ = false ∧ w.heap.size + 1 + 1 < w3.heap.size ∧ Hid (TK w (w3.setCell ⟨w.heap.size + 1 + 1, 1, none⟩ (.slice (some ⟨g2, 0, none⟩) (xl.length + 1) cap2)) W.heap.size [.slice (some ad) n2 c, .slice (some ad2) n2 c2] (.slice (some ⟨g, 0, none⟩) (xi.length + 1) cap) (.slice (some ⟨g2, 0, none⟩) (xl.length + 1) cap2) (.slice Ao xo.length co) (xi ++ [x]) (xl ++ [y - 1]) xo) from by
            have h2 := HK5.out.on hb
            obtain ⟨_, _, m3, _, _⟩ := h2.mid (h2.fam.own (v := .slice Al xl.length cl) (n := xl.length) (xs := ints xl) (by simp)) hg
            exact ⟨m3.cell rfl, m3.frozen 1, m3.lt, Lib.hid (h2.left ho hg (hl.imp (fun e => e.symm) (fun e k hk => by simp [Value.ownBlock] at hk; omega)))⟩)
          have n0 := HK5.out.nw.cell (j := 0) rfl
          have n1 := HK5.out.nw.cell (j := 1) rfl
          have nf0 := HK5.out.nw.frozen 0
          have nf1 := HK5.out.nw.frozen 1
          have nl := HK5.out.nw.lt
          have b0 := HK5.out.box.cell (j := 0) rfl
          have b1 := HK5.out.box.cell (j := 1) rfl
          have bl := HK5.out.box.lt
          obtain ⟨hc20, hal2⟩ := HC2.out w5 HK5.out.below
          have hws := HK5.out.sz
          clear hb5
          go_wp2_with fail
          go_region_law (refine step_append_lies _ rfl (.tmp 47) (.tmp 54) 25 rfl W.heap.size 3 i0 (.int .i64 0) 1 8 Try.underlying25 hi hz0 hz1 hz2 rfl (by decide) (.slice Al xl.length cl) xl.length (ints xl) rfl (by first | exact HO5.out.alloc _ | exact (own_drewN HO5.out _).alloc _) _ 1 1 _ rfl rfl (news_one _ (y - 1)) (by intro u hu; simp at hu; subst hu; rfl) (by decide) (by unfold maxLen; omega) (by omega) (by simp; omega) _ rfl ?_; intro g6 cap6 w36 hown3 hgr3 hlies hlt3; obtain ⟨z0, z1, zl, HN6⟩ := HNX5.out _ g6 cap6 w36 ((below_drewN (Below.refl _ w5) _).alloc (Nat.le_refl _) _) hown3 hgr3 hlies; clear hown3 hgr3 hlies hlt3)
          all_goals (
            generalize (w36.setCell ⟨w.heap.size + 1 + 1, 1, none⟩ (.slice (some ⟨g6, 0, none⟩) (xl.length + 1) cap6)) = w7 at *
            clear z0 z1 zl n0 n1 nf0 nf1 nl b0 b1 bl hc20 hal2 wy
            go_wp2_with fail
            exact ⟨⟨i + 1, _, _, _, xi ++ [x], xl ++ [y - 1], xo, by go_num, by omega, rfl, Lib.hid HS.out, HN6.out⟩, by simp [intOf]; omega⟩))
    · obtain rfl : i = n2 := by omega
      have hnl : ¬ (i : Int) < (i : Int) := by omega
      have n0 := hk.nw.cell (j := 0) rfl
      have n1 := hk.nw.cell (j := 1) rfl
      have nl := hk.nw.lt
      have z0 := hk.res.cell (j := 0) rfl
      have z1 := hk.res.cell (j := 1) rfl
      have zf0 := hk.res.frozen 0
      have zf1 := hk.res.frozen 1
      have zl := hk.res.lt
      have HKK := Lib.hid hk
      clear hk hb2 hb3 hb4 e1 e2 hlens
      go_wp2
      have hk := HKK.out
      have r3 := (hk.res.set 0 (.slice Ai xi.length ci)).set 1 (.slice Al xl.length cl)
      have g0 := r3.cell (j := 0) rfl
      have g1 := r3.cell (j := 1) rfl
      refine bodyPost_ret (v := .tuple #[.agg #[.slice Ai xi.length ci, .slice Al xl.length cl], .slice Ao xo.length co]) (by simp [results, Try.results16, go_sem, g0, g1]) rfl ?_
      have hbf := below_setCell (below_setCell hk.below (p := ⟨w.heap.size + 1, 0, none⟩) (by simp) (.slice Ai xi.length ci)) (p := ⟨w.heap.size + 1, 1, none⟩) (by simp) (.slice Al xl.length cl)
      have hF := fam_set (fam_set hk.fam (a := ⟨w.heap.size + 1, 0, none⟩) (by have := hk.lt; simp only; omega) (.slice Ai xi.length ci)) (a := ⟨w.heap.size + 1, 1, none⟩) (by have := hk.lt; simp only; omega) (.slice Al xl.length cl)
      have o2 := hF.own (v := .slice Ai xi.length ci) (n := xi.length) (xs := ints xi) (by simp)
      have o3 := hF.own (v := .slice Al xl.length cl) (n := xl.length) (xs := ints xl) (by simp)
      have o4 := hF.own (v := .slice Ao xo.length co) (n := xo.length) (xs := ints xo) (by simp)
      have ht := HT.out
      rw [List.take_of_length_le (by rw [← HLN.out.1]; exact Nat.le_refl _), List.take_of_length_le (by rw [← HLN.out.2]; exact Nat.le_refl _)] at ht
      have hq : tickQ q = (⟨xi, xl⟩, xo) := by unfold tickQ; rw [ht]
      have hee := tick_len q.ids q.left
      rw [ht] at hee
      obtain ⟨_, _, q1, q2, q3⟩ := own_shape o2
      obtain ⟨_, _, q4, q5, q6⟩ := own_shape o3
      obtain ⟨_, _, q7, q8, q9⟩ := own_shape o4
      injection q1 with _ _ q1
      injection q4 with _ _ q4
      injection q7 with _ _ q7
      unfold QTickPost
      rw [hq]
      exact ⟨Ai, xi.length, ci, Al, xl.length, cl, Ao, xo.length, co, rfl, ⟨Reads.of_own o2, Reads.of_own o3, by omega, by omega, by omega, by omega, hee.1.symm⟩, Reads.of_own o4, by omega, by omega, hbf, fresh_own o2 (by have := hk.lt; omega) (Nat.le_refl _), fresh_own o3 (by have := hk.lt; omega) (Nat.le_refl _), fresh_own o4 (by have := hk.lt; omega) (Nat.le_refl _)⟩
end Go.Proofs.Ytfojempmgonahaa.Wh
