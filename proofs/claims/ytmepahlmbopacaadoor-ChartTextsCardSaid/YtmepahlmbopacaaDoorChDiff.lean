/- What Diff of package chart returns: the moves. Conditions: the charts' nodes read as lists. -/
import Derived.Test.YtmepahlmbopacaaDoorChCheck
set_option linter.unusedVariables false
set_option linter.unusedSimpArgs false
set_option maxRecDepth 100000
namespace Go.Proofs.YtmepahlmbopacaaDoor.Ct
open Go Go.RowKit
def mv3 (m : Mv) : List Value := [.int .i64 m.s, .int .i64 m.f, .int .i64 m.t]
/-- Moves as cells. -/
def mvs (l : List Mv) : List Value := l.flatMap mv3
theorem mvs_app (a b : List Mv) : mvs (a ++ b) = mvs a ++ mvs b := by simp [mvs]
theorem mvs_one (m : Mv) : mvs [m] = mv3 m := by simp [mvs]
theorem mvs_len (l : List Mv) : (mvs l).length = l.length * 3 := by
  induction l with
  | nil => rfl
  | cons m r ih =>
    have : mvs (m :: r) = mv3 m ++ mvs r := rfl
    rw [this, List.length_append, ih, List.length_cons]
    simp [mv3]
    omega
theorem move_row : (Tryd.prog.info? 39).map (fun i => (i.zero, i.size, i.bytes)) = some (some (.agg #[.int .i64 0, .int .i64 0, .int .i64 0]), 3, 24) := by kernel_rfl
theorem append_move {ops : Array Oper} {rest : List Oper} {o : Oper} {a : Act} {Q : Exit → Act → World → Prop} {W : World} (hgd : o.guard = none) (s x : Operand)
    (ho : o.op = .call { callee := .builtin .append, args := #[s, x], argTypes := #[30, 30] })
    (base : Nat) (v : Value) (L : List Mv) (m : Mv) (hs : a.eval s = v) (hown : W.ownsRow base 39 3 v L.length (mvs L)) (N : Nat) (hN : N = W.heap.size) (hx : a.eval x = .slice (some ⟨N, 0, none⟩) 1 1)
    (hn : L.length ≤ 1000000) (hbase : base ≤ W.heap.size)
    (h : ∀ v' w', w'.ownsRow base 39 3 v' (L ++ [m]).length (mvs (L ++ [m])) → W.grownBy w' v.ownBlock → wpList Tryd.prog ops Q rest (a.put o.dst v') w') :
    wpList Tryd.prog ops Q (o :: rest) a (W.alloc (.cells #[.int .i64 m.s, .int .i64 m.f, .int .i64 m.t] 39)) := by
  subst hN
  obtain ⟨i0, hi, hz0, hz1, hz2⟩ := info_parts move_row
  refine append_new hgd s x 30 39 39 ho base i0 (.agg #[.int .i64 0, .int .i64 0, .int .i64 0]) 3 24 Tryd.underlying30 hi hz0 hz1 hz2 rfl (by decide) (by decide) v L.length (mvs L) hs hown hx #[.int .i64 m.s, .int .i64 m.f, .int .i64 m.t] rfl (by intro u hu; simp at hu; rcases hu with rfl | rfl | rfl <;> rfl) (by omega) hbase (fun v' w' p q _ => h v' w' ?_ q)
  rw [mvs_app, mvs_one, List.length_append]
  exact p
theorem dm_next {a b : List Int} {k : Nat} (h : a.getD k 0 ≠ b.getD k 0) : dm a b (k + 1) = dm a b k ++ [⟨(k : Int), a.getD k 0, b.getD k 0⟩] := by rw [dm_succ, mvOf, if_neg h]
theorem dm_skip {a b : List Int} {k : Nat} (h : a.getD k 0 = b.getD k 0) : dm a b (k + 1) = dm a b k := by rw [dm_succ, mvOf, if_pos h, List.append_nil]
theorem own_base {w : World} {base base' : Nat} {e : TypeId} {size : Nat} {v : Value} {n : Nat} {xs : List Value} (h : w.ownsRow base e size v n xs) (hb : base' ≤ base) : w.ownsRow base' e size v n xs :=
  ⟨h.1, h.2.imp id fun ⟨g, cap, cur, hv, hg, r⟩ => ⟨g, cap, cur, hv, by omega, r⟩⟩
theorem own_grown {w1 w2 : World} {B : Nat} {v : Value} {n : Nat} {xs : List Value} {e : TypeId} {s : Nat} {w : World} (hb : Below B w w1) (hown : w1.ownsRow B e s v n xs) (hg : w1.grownBy w2 v.ownBlock) (hs : B ≤ w1.heap.size) : Below B w w2 :=
  hb.trans (below_own hown hg hs)
set_option maxHeartbeats 4000000 in
theorem diff_any {w : World} {B B' : Nat} {A A' : Option Addr} {n n' c c' : Nat} {l l' : List Int} (e e' : Int) (hR : Reads w B 1 A n (ints l)) (hB : B ≤ w.heap.size) (hR' : Reads w B' 1 A' n' (ints l')) (hB' : B' ≤ w.heap.size) :
    Calls Tryd.prog 23 #[.agg #[.int .i64 e, .slice A n c], .agg #[.int .i64 e', .slice A' n' c']] w fun en w' =>
      ∃ v, en = .returned (.tuple #[v, .int .i64 (diffE e l e' l')]) ∧ w'.ownsRow w.heap.size 39 3 v (diffL e l e' l').length (mvs (diffL e l e' l')) ∧ Below w.heap.size w w' := by
  have hln := hR.len
  have hln' := hR'.len
  obtain ⟨W, hW⟩ : ∃ W, W = (w.alloc (.cells #[.int .i64 e, .slice A n c] 24)).alloc (.cells #[.int .i64 e', .slice A' n' c'] 24) := ⟨_, rfl⟩
  have hB0 : Below w.heap.size w W := by rw [hW]; exact ((Below.refl _ w).alloc (Nat.le_refl _) _).alloc (by simp) _
  have r1 : Row W w.heap.size 24 [.int .i64 e, .slice A n c] := by
    rw [hW]
    exact (Row.new w 24 [.int .i64 e, .slice A n c]).keep (heap_alloc_lt _ _ (by simp))
  have r2 : Row W (w.heap.size + 1) 24 [.int .i64 e', .slice A' n' c'] := by
    rw [hW]
    have := Row.new (w.alloc (.cells #[.int .i64 e, .slice A n c] 24)) 24 [.int .i64 e', .slice A' n' c']
    rwa [World.size_alloc] at this
  have hR1 := (hR.more hB).below hB0
  have hR2 := (hR'.more hB').below hB0
  have HC1 := Lib.hid (check_any (c := c) e hR1 hB0.size)
  have KC2 := Lib.hid (fun w1 (hb : Below W.heap.size W w1) => check_any (c := c') e' (hR2.below (hb.mono hB0.size)) (Nat.le_trans hB0.size hb.size))
  have KR := Lib.hid (fun w1 (hb : Below W.heap.size W w1) => And.intro (r1.keep (hb.block _ r1.lt)) (And.intro (r2.keep (hb.block _ r2.lt)) (And.intro (hR1.below (hb.mono hB0.size)) (hR2.below (hb.mono hB0.size)))))
  have HW := Lib.hid hW
  have HB0 := Lib.hid hB0
  have hlnn : (n = n') ↔ l.length = l'.length := by omega
  have HLN := Lib.hid (And.intro hln hln')
  have hDE : diffE e l e' l' = if mayC e l = true ∧ mayC e' l' = true ∧ n = n' then 0 else 1 := by unfold diffE; simp only [hlnn]
  have hDL : diffL e l e' l' = if mayC e l = true ∧ mayC e' l' = true ∧ n = n' then dm l l' l.length else [] := by unfold diffL; simp only [hlnn]
  have hsml : mayC e l = true → n ≤ 16 := fun h => by rw [mayC_iff] at h; omega
  rw [hDE, hDL]
  clear hDE hDL hlnn hln hln' hR hR' hB hB' hR1 hR2 hB0 hW r1 r2
  generalize mayC e l = b1 at *
  generalize mayC e' l' = b2 at *
  rcases b1 with _ | _
  · rw [if_neg (by simp), if_neg (by simp)]
    rw [okV_f] at HC1
    clear hsml
    go_enter Tryd.func23, Tryd.ntmps23
    go_wp2_with fail
    rw [← HW.out]
    refine HC1.out.mono ?_
    rintro en w1 ⟨rfl, hb1⟩
    have HB1 := Lib.hid (HB0.out.trans (hb1.mono HB0.out.size))
    clear hb1
    go_wp2_with fail
    go_ret2
    exact ⟨_, rfl, World.ownsRow_nil .., HB1.out⟩
  · rw [okV_t] at HC1
    rcases b2 with _ | _
    · rw [if_neg (by simp), if_neg (by simp)]
      clear hsml
      go_enter Tryd.func23, Tryd.ntmps23
      go_wp2_with fail
      rw [← HW.out]
      refine HC1.out.mono ?_
      rintro en w1 ⟨rfl, hb1⟩
      obtain ⟨r1, r2, _, _⟩ := KR.out w1 hb1
      have c0 := r2.cell (j := 0) rfl
      have c1 := r2.cell (j := 1) rfl
      have l2 := r2.lt
      have HC2 := Lib.hid (KC2.out w1 hb1)
      rw [okV_f] at HC2
      have HB1 := Lib.hid (HB0.out.trans (hb1.mono HB0.out.size))
      clear hb1 r1 r2
      go_wp2_with fail
      refine HC2.out.mono ?_
      rintro en w2 ⟨rfl, hb2⟩
      have HB2 := Lib.hid (below_then HB1.out hb2)
      clear hb2
      go_wp2_with fail
      go_ret2
      exact ⟨_, rfl, World.ownsRow_nil .., HB2.out⟩
    · have hn16 := hsml rfl
      clear hsml
      have KX := Lib.hid (fun w2 (hb : Below W.heap.size W w2) => show (w2.cell? ⟨w.heap.size, 1, none⟩ = some (.slice A n c) ∧ w2.cell? ⟨w.heap.size + 1, 0, none⟩ = some (.int .i64 e') ∧ w2.cell? ⟨w.heap.size + 1, 1, none⟩ = some (.slice A' n' c') ∧ w.heap.size < w2.heap.size ∧ w.heap.size + 1 < w2.heap.size) from
        ⟨(KR.out w2 hb).1.cell (j := 1) rfl, (KR.out w2 hb).2.1.cell (j := 0) rfl, (KR.out w2 hb).2.1.cell (j := 1) rfl, (KR.out w2 hb).1.lt, (KR.out w2 hb).2.1.lt⟩)
      by_cases hnn : n = n'
      · rw [if_pos ⟨rfl, rfl, hnn⟩, if_pos ⟨rfl, rfl, hnn⟩]
        subst hnn
        go_enter Tryd.func23, Tryd.ntmps23
        go_wp2_with fail
        rw [← HW.out]
        refine HC1.out.mono ?_
        rintro en w1 ⟨rfl, hb1⟩
        obtain ⟨x0, x1, x2, x3, x4⟩ := KX.out w1 hb1
        have HC2 := Lib.hid (KC2.out w1 hb1)
        rw [okV_t] at HC2
        have HB1 := Lib.hid hb1
        clear hb1
        go_wp2_with fail
        refine HC2.out.mono ?_
        rintro en w2 ⟨rfl, hb2⟩
        clear x0 x1 x2 x3 x4
        obtain ⟨x0, x1, x2, x3, x4⟩ := KX.out w2 (below_then HB1.out hb2)
        have HB2 := Lib.hid (below_then HB1.out hb2)
        have hs2 := HB0.out.size
        have hs3 := HB2.out.size
        clear hb2
        go_wp2_with fail
        go_loopw [6, 30] (fun v i wr => ∃ (va : Value) (k : Nat), va = v ∧ i = .int .i64 (k : Int) ∧ k ≤ n ∧ wr.ownsRow w2.heap.size 39 3 va (dm l l' k).length (mvs (dm l l' k)) ∧ Below w2.heap.size w2 wr) (fun _ i _ => n - (intOf i).toNat)
        case atStart => exact ⟨_, 0, rfl, rfl, Nat.zero_le _, World.ownsRow_nil .., Below.refl _ _⟩
        case round =>
          obtain ⟨va, k, rfl, rfl, hk, hown, hb⟩ := hrel
          have hbW := HB2.out.trans (hb.mono HB2.out.size)
          clear x0 x1 x2 x3 x4
          obtain ⟨x0, x1, x2, x3, x4⟩ := KX.out wr hbW
          by_cases hlt : k < n
          · obtain ⟨_, _, hRa, hRb⟩ := KR.out wr hbW
            obtain ⟨ad, rfl, hab, hc⟩ := hRa.int_at hlt
            obtain ⟨ad', rfl, hab', hc'⟩ := hRb.int_at hlt
            have hbWs := hbW.size
            have hadl : (ad.add k).block < wr.heap.size := by rw [block_of_add]; omega
            have hadl' : (ad'.add k).block < wr.heap.size := by rw [block_of_add]; omega
            have hltz : (k : Int) < (n : Int) := by omega
            have hdl := dm_len l l' k
            have hnx := Lib.hid (@dm_next l l' k)
            have hsk := Lib.hid (@dm_skip l l' k)
            have hws := hb.size
            have HH := Lib.hid (And.intro hown hb)
            clear hown hb hRa hRb hbW hbWs
            generalize l.getD k 0 = x at *
            generalize l'.getD k 0 = y at *
            generalize dm l l' k = D at *
            by_cases hxy : x = y
            · have HN := Lib.hid (hsk.out hxy)
              subst hxy
              clear hnx hsk
              go_wp2_with fail
              exact ⟨⟨_, k + 1, rfl, by go_num, hlt, by rw [HN.out]; exact HH.out.1, HH.out.2⟩, by simp [intOf]; omega⟩
            · have hyx : (y != x) = true := by rw [bne_iff_ne]; exact fun h => hxy h.symm
              have HN := Lib.hid (hnx.out hxy)
              clear hnx hsk
              go_wp2_with (at_builtin; refine append_move rfl (.tmp 43) (.tmp 48) rfl w2.heap.size va D ⟨(k : Int), x, y⟩ rfl HH.out.1 wr.heap.size rfl rfl (by omega) hws ?_; intro v' w3 hown3 hgr3)
              exact ⟨⟨_, k + 1, rfl, by go_num, hlt, by rw [HN.out]; exact hown3, own_grown HH.out.2 HH.out.1 hgr3 hws⟩, by simp [intOf]; omega⟩
          · obtain rfl : k = n := by omega
            have hnl : ¬ (k : Int) < (k : Int) := by omega
            rw [HLN.out.1] at hown
            have hs4 := HB0.out.size
            have HH := Lib.hid (And.intro (own_base hown (show w.heap.size ≤ w2.heap.size by omega)) (HB0.out.trans (hbW.mono HB0.out.size)))
            clear hown hb hbW
            go_wp2_with fail
            go_ret2
            exact ⟨_, rfl, HH.out.1, HH.out.2⟩
      · rw [if_neg (by simpa using hnn), if_neg (by simpa using hnn)]
        have hnz : ((n : Int) != (n' : Int)) = true := by rw [bne_iff_ne]; omega
        go_enter Tryd.func23, Tryd.ntmps23
        go_wp2_with fail
        rw [← HW.out]
        refine HC1.out.mono ?_
        rintro en w1 ⟨rfl, hb1⟩
        obtain ⟨x0, x1, x2, x3, x4⟩ := KX.out w1 hb1
        have HC2 := Lib.hid (KC2.out w1 hb1)
        rw [okV_t] at HC2
        have HB1 := Lib.hid hb1
        clear hb1
        go_wp2_with fail
        refine HC2.out.mono ?_
        rintro en w2 ⟨rfl, hb2⟩
        clear x0 x1 x2 x3 x4
        obtain ⟨x0, x1, x2, x3, x4⟩ := KX.out w2 (below_then HB1.out hb2)
        have HB2 := Lib.hid (below_then HB1.out hb2)
        clear hb2
        go_wp2_with fail
        go_ret2
        exact ⟨_, rfl, World.ownsRow_nil .., HB0.out.trans (HB2.out.mono HB0.out.size)⟩
end Go.Proofs.YtmepahlmbopacaaDoor.Ct
