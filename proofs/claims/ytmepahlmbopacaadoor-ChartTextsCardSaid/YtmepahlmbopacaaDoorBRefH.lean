/- What read of the document's answers returns, whatever the bytes. Conditions: up to 1000000000 bytes. -/
import Derived.Test.YtmepahlmbopacaaDoorBRefF
import Derived.Test.YtmepahlmbopacaaDoorBRefG
set_option linter.unusedVariables false
set_option linter.unusedSimpArgs false
namespace Go.Proofs.YtmepahlmbopacaaDoor.Be
open Go Go.RowKit

theorem append_value_at {ops : Array Oper} {rest : List Oper} {o : Oper} {a : Act} {Q : Exit → Act → World → Prop} {W : World} (hgd : o.guard = none) (s x : Operand)
    (ho : o.op = .call { callee := .builtin .append, args := #[s, x], argTypes := #[58, 58] })
    (base : Nat) (v : Value) (n : Nat) (xs : List Value) (c0 c1 c2 c3 : Value) (hy : ∀ u ∈ [c0, c1, c2, c3], u.oneCell' = true) (hs : a.eval s = v) (hown : W.ownsRow base 60 4 v n xs) (N : Nat) (hN : N = W.heap.size) (hx : a.eval x = .slice (some ⟨N, 0, none⟩) 1 1)
    (hn : n ≤ 1000000000) (hbase : base ≤ W.heap.size)
    (h : ∀ v' w', w'.ownsRow base 60 4 v' (n + 1) (xs ++ [c0, c1, c2, c3]) → W.grownBy w' v.ownBlock → (v'.ownBlock = v.ownBlock ∨ ∀ k, v'.ownBlock = some k → W.heap.size ≤ k) → wpList Tryd.prog ops Q rest (a.put o.dst v') w') :
    wpList Tryd.prog ops Q (o :: rest) a (W.alloc (.cells #[c0, c1, c2, c3] 60)) := by
  subst hN
  exact append_value hgd s x ho base v n xs c0 c1 c2 c3 hy hs hown hx hn hbase h
set_option maxRecDepth 100000 in
set_option maxHeartbeats 8000000 in
theorem rnumber_nought (s : ByteArray) (h0 : 0 < s.size) (h45 : s[0] = 45) (h48 : (s.data.toList.drop 1).head? = some 48) (hs : s.size ≤ 1000000000) (w : World) : Calls Tryd.prog 93 #[.string s] w (NumPost (rdNum s.data.toList) w) := by
  have hfirst : ((s[0].toNat : Int) == 45) = true := by rw [u8_lit h0 45 45 rfl]; simpa using h45
  have h0z : (0 : Int) < (s.size : Int) := by omega
  have hd := drop_cons s 0 h0
  rw [List.drop_zero, h45] at hd
  have HF : Hid (rdNum s.data.toList = .error 20) := Lib.hid (by rw [hd, rdNum_minus, if_pos (by rw [hd] at h48; simpa using h48)])
  have h1 : 1 < s.size := by
    by_cases hx : 1 < s.size
    · exact hx
    · rw [drop_nil s _ hx] at h48; cases h48
  have h1z : (1 : Int) < (s.size : Int) := by omega
  have h1e : ((1 : Int) == (s.size : Int)) = false := by rw [Bool.eq_false_iff, Ne, beq_iff_eq]; omega
  rw [drop_cons s 1 h1] at h48
  simp only [List.head?_cons, Option.some.injEq] at h48
  have k0 : ((s[1].toNat : Int) == 101) = false := by rw [u8_lit h1 101 101 rfl, h48]; rfl
  have k1 : (48 : Int) ≤ (s[1].toNat : Int) := by rw [h48]; decide
  have k2 : (s[1].toNat : Int) ≤ 57 := by rw [h48]; decide
  have k3 : ((s[1].toNat : Int) == 48) = true := by rw [u8_lit h1 48 48 rfl]; simpa using h48
  clear h45 h48 hd
  go_enter Tryd.func93, Tryd.ntmps93
  go_wp2
  refine wp_loop_rounds 1 ?_
  rw [rounds_succ]
  go_wp2
  go_ret3
  exact NumPost.err HF.out rfl rfl
theorem num_calls : NumCalls := by
  intro s hs w
  by_cases h : s.data.toList.head? = some 45
  · have h0 : 0 < s.size := by
      by_cases hx : 0 < s.size
      · exact hx
      · have := drop_nil s 0 hx
        rw [List.drop_zero] at this
        rw [this] at h; cases h
    have hd := drop_cons s 0 h0
    rw [List.drop_zero] at hd
    have h45 : s[0] = 45 := by rw [hd] at h; simpa using h
    by_cases h48 : (s.data.toList.drop 1).head? = some 48
    · exact rnumber_nought s h0 h45 h48 hs w
    · exact rnumber_neg s h0 h45 h48 hs w
  · exact rnumber_pos s h hs w
/-- What holds at the head of each round of a list's reading. -/
structure RRel (rl : Except Int (List T × Nat)) (s : ByteArray) (d : Nat) (w : World) (wr : World) (g : Nat) (ts : List T) (xs : List Value) (u : Value) : Prop where
  lo : 1 ≤ g
  hi : g ≤ s.size
  bel : Below w.heap.size w wr
  res : wr.heap[w.heap.size]? = some (.cells #[.int .i64 0, .int .i64 0, .string ⟨#[]⟩, .slice none 0 0] 60 (0, 0))
  lst : wr.heap[w.heap.size + 1]? = some (.cells #[.int .i64 3, .int .i64 0, .string ⟨#[]⟩, u] 60 (0, 0))
  own : wr.ownsRow (w.heap.size + 2) 60 4 u ts.length xs
  rdl : RdL (fun b => w.heap.size + 2 ≤ b ∧ some b ≠ u.ownBlock) wr ts xs
  few : ts.length ≤ g
  rest : rl = prep ts (g - 1) (rdL (s.data.toList.drop g) d)

theorem step_lst {rl : Except Int (List T × Nat)} {s : ByteArray} {d : Nat} {w wr w1 w2 : World} {g : Nat} {ts : List T} {xs : List Value} {u : Value} {o : Obj} (hR : RRel rl s d w wr g ts xs u) (hz2 : w.heap.size + 1 < wr.heap.size) (hb1 : Below wr.heap.size wr w1) (hgr : (w1.alloc o).grownBy w2 u.ownBlock) :
    w2.heap[w.heap.size + 1]? = some (.cells #[.int .i64 3, .int .i64 0, .string ⟨#[]⟩, u] 60 (0, 0)) := by
  have hs1 := hb1.size
  have hlt := own_lt hR.own
  rw [hgr.block (w.heap.size + 1) (by simp; omega) (fun e => by have := (hlt _ e.symm).1; omega), Below.heap_alloc _ _ _ (by omega), hb1.block _ hz2]
  exact hR.lst
theorem step_res {rl : Except Int (List T × Nat)} {s : ByteArray} {d : Nat} {w wr w1 w2 : World} {g : Nat} {ts : List T} {xs : List Value} {u : Value} {o : Obj} (hR : RRel rl s d w wr g ts xs u) (hz2 : w.heap.size + 1 < wr.heap.size) (hb1 : Below wr.heap.size wr w1) (hgr : (w1.alloc o).grownBy w2 u.ownBlock) :
    w2.heap[w.heap.size]? = some (.cells #[.int .i64 0, .int .i64 0, .string ⟨#[]⟩, .slice none 0 0] 60 (0, 0)) := by
  have hs1 := hb1.size
  have hlt := own_lt hR.own
  rw [hgr.block w.heap.size (by simp; omega) (fun e => by have := (hlt _ e.symm).1; omega), Below.heap_alloc _ _ _ (by omega), hb1.block _ (by omega)]
  exact hR.res
theorem rrel_step {rl : Except Int (List T × Nat)} {s : ByteArray} {d : Nat} {w wr w1 w2 : World} {g n : Nat} {ts : List T} {xs cs : List Value} {u v2 : Value} {t : T} (hR : RRel rl s d w wr g ts xs u) (hlt : g < s.size) (h101 : s[g] ≠ 101) (hx : rd (s.data.toList.drop g) d = .ok (t, n)) (hd : d ≤ 8)
    (hb1 : Below wr.heap.size wr w1) (hRd : Rd (fun b => wr.heap.size ≤ b) w1 t cs) (o : Obj) (hown2 : w2.ownsRow (w.heap.size + 2) 60 4 v2 (ts.length + 1) (xs ++ cs)) (hgr : (w1.alloc o).grownBy w2 u.ownBlock)
    (hob : v2.ownBlock = u.ownBlock ∨ ∀ k, v2.ownBlock = some k → (w1.alloc o).heap.size ≤ k) : RRel rl s d w (w2.setCell ⟨w.heap.size + 1, 3, none⟩ v2) (g + n) (ts ++ [t]) (xs ++ cs) v2 := by
  have hz2 : w.heap.size + 1 < wr.heap.size := (Array.getElem?_eq_some_iff.1 hR.lst).1
  have hs1 := hb1.size
  have hl := own_lt hR.own
  have hinv := rd_inv hd hx
  have hn := hinv.le
  have hn2 := hinv.ge
  simp at hn
  have hlo := hR.lo
  have hfew := hR.few
  have hlst := step_lst hR hz2 hb1 hgr
  have hres := step_res hR hz2 hb1 hgr
  have hb01 : Below w.heap.size w w1 := hR.bel.trans (hb1.mono (by omega))
  refine ⟨by omega, by omega, ?_, ?_, ?_, ?_, ?_, by simp; omega, ?_⟩
  · exact ((hb01.alloc (by omega) o).grown hgr (by simp; omega) (fun k hk => by have := (hl k hk).1; omega)).setCell (by simp) _
  · rw [Below.heap_setCell _ _ _ _ (by simp)]
    exact hres
  · have := (Array.getElem?_eq_some_iff.1 hlst).1
    simp only [World.setCell, Array.getElem?_modify, hlst]
    simp
  · have := ownsRow_setCell_below hown2 (a := ⟨w.heap.size + 1, 3, none⟩) (by simp) v2
    simpa using this
  · have k0 : Keeps (fun b => w.heap.size + 2 ≤ b ∧ some b ≠ u.ownBlock) wr (w1.alloc o) := (Keeps.of_below hb1 (fun b _ h => h)).alloc o
    have k1 : Keeps (fun b => wr.heap.size ≤ b) w1 (w1.alloc o) := (Keeps.refl _ _).alloc o
    have h1 := rdl_more (B := w.heap.size + 2) (w0 := wr) (RdL.keep k0 _ _ hR.rdl) (Rd.keep k1 _ _ hRd) (by omega) (fun k hk => (hl k hk).2) hgr hob
    exact RdL.keep ((Keeps.refl _ _).setCell _ (fun h => by have := h.1; simp at this) _) _ _ h1
  · rw [hR.rest, prep_step ts (g - 1) _ d _ _ (drop_cons s g hlt) h101 t n (by omega) hx, List.drop_drop]
    congr 1
    omega
set_option maxRecDepth 100000 in
set_option maxHeartbeats 8000000 in
theorem read_list (N : Nat) (ih : ∀ (s : ByteArray) (d : Nat) (D : Int) (w : World), D = (d : Int) → d ≤ 8 → s.size < N → s.size ≤ 1000000000 → Calls Tryd.prog 68 #[.string s, .int .i64 D] w (RPost (rd s.data.toList d) w))
    (s : ByteArray) (d : Nat) (D : Int) (hD : D = (d : Int)) (h8 : d < 8) (hN : s.size ≤ N) (hs : s.size ≤ 1000000000) (h0 : 0 < s.size) (hc : s[0] = 108) (w : World) : Calls Tryd.prog 68 #[.string s, .int .i64 D] w (RPost (rd s.data.toList d) w) := by
  have hd := drop_cons s 0 h0
  rw [List.drop_zero, hc] at hd
  generalize hres : rd s.data.toList d = res
  rw [hd, rd_l _ _ h8] at hres
  rw [show 0 + 1 = 1 by rfl] at hres
  generalize hrl : rdL (s.data.toList.drop 1) (d + 1) = rl at hres
  have HRL := Lib.hid hrl
  have HR := Lib.hid hres
  have hpe : ((s.size : Int) == 0) = false := by rw [Bool.eq_false_iff, Ne, beq_iff_eq]; omega
  have hpz : (0 : Int) < (s.size : Int) := by omega
  have hcb : ((s[0].toNat : Int) == 105) = false := by rw [u8_lit h0 105 105 rfl, hc]; rfl
  have hcl : ((s[0].toNat : Int) == 108) = true := by rw [u8_lit h0 108 108 rfl]; simpa using hc
  have hd3 : (57 : Int) < (s[0].toNat : Int) := by rw [hc]; decide
  have hd2 : (48 : Int) ≤ (s[0].toNat : Int) := by omega
  have h8z : D < 8 := by omega
  have h8p : 0 ≤ D := by omega
  have HDD := Lib.hid hD
  clear hd hc hD hrl hres
  have hst1 : ((w.alloc (.cells #[.int .i64 0, .int .i64 0, .string ⟨#[]⟩, .slice none 0 0] 60)).alloc (.cells #[.int .i64 3, .int .i64 0, .string ⟨#[]⟩, .slice none 0 0] 60)).heap[w.heap.size]? = some (.cells #[.int .i64 0, .int .i64 0, .string ⟨#[]⟩, .slice none 0 0] 60 (0, 0)) := by
    rw [Below.heap_alloc _ _ _ (by simp)]
    exact heap_alloc_new w _
  have hst2 : ((w.alloc (.cells #[.int .i64 0, .int .i64 0, .string ⟨#[]⟩, .slice none 0 0] 60)).alloc (.cells #[.int .i64 3, .int .i64 0, .string ⟨#[]⟩, .slice none 0 0] 60)).heap[w.heap.size + 1]? = some (.cells #[.int .i64 3, .int .i64 0, .string ⟨#[]⟩, .slice none 0 0] 60 (0, 0)) := by
    have := heap_alloc_new (w.alloc (.cells #[.int .i64 0, .int .i64 0, .string ⟨#[]⟩, .slice none 0 0] 60)) (.cells #[.int .i64 3, .int .i64 0, .string ⟨#[]⟩, .slice none 0 0] 60)
    simpa using this
  have hst3 : Below w.heap.size w ((w.alloc (.cells #[.int .i64 0, .int .i64 0, .string ⟨#[]⟩, .slice none 0 0] 60)).alloc (.cells #[.int .i64 3, .int .i64 0, .string ⟨#[]⟩, .slice none 0 0] 60)) := ((Below.refl _ _).alloc (Nat.le_refl _) _).alloc (by simp) _
  go_enter Tryd.func68, Tryd.ntmps68
  go_wp2_with fail
  generalize (w.alloc (.cells #[.int .i64 0, .int .i64 0, .string ⟨#[]⟩, .slice none 0 0] 60)).alloc (.cells #[.int .i64 3, .int .i64 0, .string ⟨#[]⟩, .slice none 0 0] 60) = w0 at hst1 hst2 hst3
  have H1 := Lib.hid hst1
  have H2 := Lib.hid hst2
  clear hst1 hst2
  go_loopw [15] (fun i wr => ∃ (g : Nat) (ts : List T) (xs : List Value) (u : Value), i = .int .i64 (g : Int) ∧ RRel rl s (d + 1) w wr g ts xs u) (fun i _ => s.size - (intOf i).toNat)
  case atStart => exact ⟨1, [], [], .slice none 0 0, rfl, Nat.le_refl _, by omega, hst3, H1.out, H2.out, World.ownsRow_nil .., rfl, by simp, by rw [Nat.sub_self, prep_nil]; exact HRL.out.symm⟩
  case round =>
    obtain ⟨g, ts, xs, u, rfl, hR⟩ := hrel
    have hlo := hR.lo
    have hbel := hR.bel
    have hz1 : w.heap.size < wr.heap.size := (Array.getElem?_eq_some_iff.1 hR.res).1
    have hz2 : w.heap.size + 1 < wr.heap.size := (Array.getElem?_eq_some_iff.1 hR.lst).1
    obtain ⟨a0, a1, a2, a3, af⟩ := val_block hR.res
    obtain ⟨b0, b1, b2, b3, bf⟩ := val_block hR.lst
    have hgz : (g : Int) ≤ (s.size : Int) := by have := hR.hi; omega
    have hext : (s.extract g s.size).size = s.size - g := extract_size s g hR.hi
    by_cases hend : ∃ h : g < s.size, s[g] = 101
    · obtain ⟨hlt, h101⟩ := hend
      have hltz : (g : Int) < (s.size : Int) := by omega
      have k101 : ((s[g].toNat : Int) == 101) = true := by rw [u8_lit hlt 101 101 rfl]; simpa using h101
      have HE : Hid (res = .ok (.mk 3 0 .empty ts, g + 1)) := Lib.hid (by
        rw [← HR.out, hR.rest, drop_cons s g hlt, h101, rdL_e]
        simp only [prep, List.append_nil]
        rw [show g - 1 + 1 + 1 = g + 1 by omega])
      clear h101
      have hown := hR.own
      obtain ⟨A2, c2, rfl, hl2, hc2⟩ := own_shape hown
      go_wp2_with fail
      refine bodyPost_ret (v := .tuple #[.agg #[.int .i64 3, .int .i64 0, .string ⟨#[]⟩, .slice A2 ts.length c2], .int .i64 ((g + 1 : Nat) : Int), .int .i64 0]) (by simp [results, Tryd.results68, go_sem, a0, a1, a2, a3, hz1]) rfl (RPost.fine HE.out rfl ?_ ?_)
      · refine ⟨A2, c2, xs, rfl, by simp [T.s, maxLen], hl2, hc2, ?_, ?_⟩
        · exact ((ReadsP.of_own hown).mono (ok' := fun b => w.heap.size + 2 ≤ b) (fun b hb _ => hb)).keep (keeps_four (Keeps.refl _ _) (by simp) _ _ _ _) |>.mono (fun b hb _ => by omega)
        · exact RdL.mono (fun b hb _ => by omega) _ _ (RdL.keep (keeps_four (ok := fun b => w.heap.size + 2 ≤ b) (Keeps.refl _ _) (by simp) _ _ _ _) _ _ (RdL.mono (fun b hb _ => hb.1) _ _ hR.rdl))
      · exact below_four hbel (Nat.le_refl _) _ _ _ _
    · have hguard : (∃ h : g < s.size, ((s[g].toNat : Int) == 101) = false) ∨ ¬ (g : Int) < (s.size : Int) := by
        by_cases hlt : g < s.size
        · refine .inl ⟨hlt, ?_⟩
          rw [u8_lit hlt 101 101 rfl]
          simp only [decide_eq_false_iff_not]
          exact fun e => hend ⟨hlt, e⟩
        · exact .inr (by omega)
      have hsub : D + 1 = ((d + 1 : Nat) : Int) := by have := HDD.out; omega
      have hcall := ih (s.extract g s.size) (d + 1) (D + 1) wr hsub (by omega) (by omega) (by omega)
      rw [extract_rest] at hcall
      clear hsub
      rcases hx : rd (s.data.toList.drop g) (d + 1) with x | ⟨t, n⟩
      · rw [hx] at hcall
        have HC := Lib.hid hcall
        have HE : Hid (res = .error x) := Lib.hid (by
          rw [← HR.out, hR.rest]
          by_cases hlt : g < s.size
          · rw [prep_err ts _ _ _ _ _ (drop_cons s g hlt) (fun e => hend ⟨hlt, e⟩) x hx]
          · rw [drop_nil s g hlt, rd] at hx
            cases hx
            rw [drop_nil s g hlt, rdL]
            rfl)
        have hxs := (rd_errs_all _).1 _ _ _ (Nat.le_refl _) hx
        have hx0 : (x == 0) = false := by rw [Bool.eq_false_iff, Ne, beq_iff_eq]; omega
        have hxn : (x != 0) = true := by rw [bne, hx0]; rfl
        clear hx hcall hxs hend
        rcases hguard with ⟨hlt, k101⟩ | hltz
        case' inl => have hltz : (g : Int) < (s.size : Int) := by omega
        all_goals
          go_wp2_with fail
          refine HC.out.mono ?_
          rintro e w1 ⟨v, k, rfl, ⟨k0, rfl⟩, hb1⟩
          obtain ⟨e0, e1, e2, e3, ef⟩ := val_block ((hb1.block w.heap.size hz1).trans hR.res)
          have hz3 : w.heap.size < w1.heap.size := Nat.lt_of_lt_of_le hz1 hb1.size
          go_wp2_with fail
          refine bodyPost_ret (v := .tuple #[zeroA, .int .i64 0, .int .i64 x]) (by simp [results, Tryd.results68, go_sem, zeroA, e0, e1, e2, e3, hz3]) rfl (RPost.err HE.out rfl ?_)
          exact (below_four (hbel.trans (hb1.mono (by omega))) (Nat.le_refl _) _ _ _ _).alloc (by simp; omega) _
      · have hlt : g < s.size := by
          by_cases hlt : g < s.size
          · exact hlt
          · rw [drop_nil s g hlt, rd] at hx; cases hx
        have h101 : s[g] ≠ 101 := fun e => hend ⟨hlt, e⟩
        rw [hx] at hcall
        have HC := Lib.hid hcall
        have HX := Lib.hid hx
        have hltz : (g : Int) < (s.size : Int) := by omega
        have k101 : ((s[g].toNat : Int) == 101) = false := by rw [u8_lit hlt 101 101 rfl]; simpa using h101
        have H101 := Lib.hid h101
        have hn := (rd_inv (by omega) hx).le
        have hn2 := (rd_inv (by omega) hx).ge
        simp at hn
        clear hx hcall hend hguard h101
        go_wp2_with fail
        refine HC.out.mono ?_
        rintro e w1 ⟨v, rfl, hRA, hb1⟩
        obtain ⟨A', c', rfl, hRd⟩ := hRA.rd
        obtain ⟨e0, e1, e2, e3, ef⟩ := val_block ((hb1.block (w.heap.size + 1) hz2).trans hR.lst)
        have hz3 : w.heap.size + 1 < w1.heap.size := Nat.lt_of_lt_of_le hz2 hb1.size
        have hown1 : w1.ownsRow (w.heap.size + 2) 60 4 u ts.length xs := hR.own.kept (grown_below hb1 none) (by
          cases h : u.ownBlock with
          | none => exact .inl rfl
          | some g => exact .inr (by simp))
        have hfew := hR.few
        go_wp2_with (at_builtin; refine append_value_at rfl (.tmp 114) (.tmp 116) rfl (w.heap.size + 2) _ ts.length xs _ _ _ _ (Rd.one _ _ hRd) rfl (hown1.alloc _) (w1.heap.size + 1) (by simp) rfl (by omega) (by simp; omega) ?_; intro v2 w2 hown2 hgr2 hob2; obtain ⟨A4, c4, rfl, _, _⟩ := own_shape hown2; obtain ⟨f0, f1, f2, f3, ff⟩ := val_block (step_lst hR hz2 hb1 hgr2); have hz4 : w.heap.size + 1 < w2.heap.size := (by have := hgr2.size; simp at this; omega))
        go_roundw
        case rel => exact ⟨g + n, ts ++ [t], _, _, by go_num, rrel_step hR hlt H101.out HX.out (by omega) hb1 hRd _ hown2 hgr2 hob2⟩
        case measure => simp [intOf]; omega
theorem read_of (N : Nat) : ∀ (s : ByteArray) (d : Nat) (D : Int) (w : World), D = (d : Int) → d ≤ 8 → s.size < N → s.size ≤ 1000000000 → Calls Tryd.prog 68 #[.string s, .int .i64 D] w (RPost (rd s.data.toList d) w) := by
  induction N with
  | zero => intro s d D w _ _ h; omega
  | succ N ih =>
    intro s d D w hD hd hN hs
    by_cases h0 : 0 < s.size
    · by_cases h1 : s[0] = 105
      · exact read_num num_calls s d D hs h0 h1 w
      · by_cases h3 : s[0] = 108
        · by_cases h8 : 8 ≤ d
          · exact read_deep s d D hD h8 hs h0 h3 w
          · exact read_list N ih s d D hD (by omega) (by omega) hs h0 h3 w
        · cases h2 : isDig s[0] with
          | true => exact read_text s d D hs h0 h2 w
          | false => exact read_bad s d D hs h0 h1 h2 h3 w
    · have hd := drop_nil s 0 h0
      rw [List.drop_zero] at hd
      have := read_empty s D h0 w
      rw [hd, rd]
      exact this
theorem read_any (s : ByteArray) (hs : s.size ≤ 1000000000) (w : World) : Calls Tryd.prog 68 #[.string s, .int .i64 0] w (RPost (rd s.data.toList 0) w) := read_of (s.size + 1) s 0 0 w rfl (by omega) (by omega) hs
end Go.Proofs.YtmepahlmbopacaaDoor.Be
