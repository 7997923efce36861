/- First come, first served. Conditions: none. -/
import Derived.Test.YtikbgaomiliefaaRoOrd
import Derived.Test.YtikbgaomiliefaaRoAwk
set_option linter.unusedVariables false
set_option linter.unusedSimpArgs false
set_option maxRecDepth 100000
namespace Go.Proofs.Ytikbgaomiliefaa.Ro
open Go Go.RowKit
theorem strs_row : (Try.prog.info? 54).map (fun i => (i.zero, i.size, i.bytes)) = some (some (.slice none 0 0), 1, 24) := by kernel_rfl
theorem str_row : (Try.prog.info? 9).map (fun i => (i.zero, i.size, i.bytes)) = some (some (.string ByteArray.empty), 1, 16) := by kernel_rfl
theorem mk5s (w : World) : (Instr.makeSlice 51 (.int .i64 5) (.int .i64 5)).run Try.prog w = .ok (.slice (some ⟨w.heap.size, 0, none⟩) 5 5) (w.alloc (.cells (five (fun _ => Value.slice none 0 0)).toArray 54)) := by
  have h := run_make_row' (P := Try.prog) 51 54 (.slice none 0 0) 24 Try.underlying51 strs_row rfl .i64 .i64 5 (by omega) (by omega) w
  have e : madeCells #[.slice none 0 0] 5 = (five (fun _ => Value.slice none 0 0)).toArray := Array.toList_inj.1 (by rw [toList_madeCells_one]; rfl)
  rw [e] at h
  exact h
theorem mk5i (w : World) : (Instr.makeSlice 50 (.int .i64 5) (.int .i64 5)).run Try.prog w = .ok (.slice (some ⟨w.heap.size, 0, none⟩) 5 5) (w.alloc (.cells (five (fun _ => Value.int .i64 0)).toArray 3)) := by
  have h := run_make_row' (P := Try.prog) 50 3 (.int .i64 0) 8 Try.underlying50 int_row rfl .i64 .i64 5 (by omega) (by omega) w
  have e : madeCells #[.int .i64 0] 5 = (five (fun _ => Value.int .i64 0)).toArray := Array.toList_inj.1 (by rw [toList_madeCells_one]; rfl)
  rw [e] at h
  exact h
theorem or_start {w w1 : World} {p : Nat} {F : Nat → Prop} (h : OS code w w1 p F (Q5 (fun _ => []) (fun _ => 0))) :
    OR w ((w1.alloc (.cells (five (fun _ => Value.slice none 0 0)).toArray 54)).alloc (.cells (five (fun _ => Value.int .i64 0)).toArray 3)) p F w1.heap.size (w1.heap.size + 1) (fun _ => .slice none 0 0) (fun _ => []) (fun _ => 0) := by
  have hlo := code.lt h.road
  have hs := h.below.size
  refine ⟨h.on (((Below.refl _ w1).alloc (Nat.le_refl _) _).alloc (by simp) _), (Row.new w1 54 _).keep (heap_alloc_lt _ _ (by simp)), ?_, hs, by omega, by omega, fun hf => (by have := hlo _ hf; omega), fun hf => (by have := hlo _ hf; omega), ⟨fun j hj => World.ownsRow_nil .., fun i j _ _ _ g hg => (by cases hg)⟩, fun j hj g hg => (by cases hg), fun j hj => Nat.le_refl _⟩
  have h := Row.new (w1.alloc (.cells (five (fun _ => Value.slice none 0 0)).toArray 54)) 3 (five (fun _ => Value.int .i64 0))
  rw [World.size_alloc] at h
  exact h
/-- Two letters as a string. -/
def two (a b : Nat) : ByteArray := ⟨#[chr a, chr b]⟩
theorem two_conv (w : World) {i j : Nat} (hi : i < 100) (hj : j < 100) : (convert 53 9 (.slice (some ⟨w.heap.size, 0, none⟩) 2 2)).run Try.prog (w.alloc (.cells #[.int .u8 (97 + (i : Int)), .int .u8 (97 + (j : Int))] 5)) = .ok (.string (two i j)) (w.alloc (.cells #[.int .u8 (97 + (i : Int)), .int .u8 (97 + (j : Int))] 5)) := by
  have h := run_convert_bytes_back (P := Try.prog) (w.alloc (.cells #[.int .u8 (97 + (i : Int)), .int .u8 (97 + (j : Int))] 5)) 53 9 5 ⟨w.heap.size, 0, none⟩ 2 [chr i, chr j] Try.underlying53 Try.underlying5 Try.underlying9 (fun k hk => by
    have hk : k = 0 ∨ k = 1 := by simp at hk; omega
    have hr := Row.new w 5 [.int .u8 (97 + (i : Int)), .int .u8 (97 + (j : Int))]
    rcases hk with rfl | rfl
    · refine (hr.cell (j := 0) rfl).trans ?_
      have := chr_nat hi
      simp only [List.getElem_cons_zero]
      rw [this]
      rfl
    · refine (hr.cell (j := 1) rfl).trans ?_
      have := chr_nat hj
      simp only [List.getElem_cons_succ, List.getElem_cons_zero]
      rw [this]
      rfl)
  exact h
theorem append_str {ops : Array Oper} {rest : List Oper} {o : Oper} {a : Act} {Q : Exit → Act → World → Prop} {W : World} (hgd : o.guard = none) (s x : Operand)
    (ho : o.op = .call { callee := .builtin .append, args := #[s, x], argTypes := #[54, 54] })
    (base : Nat) (v : Value) (n : Nat) (xs : List Value) (z : ByteArray) (hs : a.eval s = v) (hown : W.ownsRow base 9 1 v n xs) (N : Nat) (hN : N = W.heap.size) (hx : a.eval x = .slice (some ⟨N, 0, none⟩) 1 1)
    (hn : n ≤ 1000000) (hbase : base ≤ W.heap.size)
    (h : ∀ v' w', w'.ownsRow base 9 1 v' (n + 1) (xs ++ [.string z]) → W.grownBy w' v.ownBlock → (v'.ownBlock = v.ownBlock ∨ ∀ k, v'.ownBlock = some k → W.heap.size ≤ k) → wpList Try.prog ops Q rest (a.put o.dst v') w') :
    wpList Try.prog ops Q (o :: rest) a (W.alloc (.cells #[.string z] 9)) := by
  subst hN
  obtain ⟨i0, hi, hz0, hz1, hz2⟩ := info_parts str_row
  exact append_new hgd s x 54 9 9 ho base i0 (.string ByteArray.empty) 1 16 Try.underlying54 hi hz0 hz1 hz2 rfl (by decide) (by decide) v n xs hs hown hx #[.string z] rfl (by intro u hu; simp at hu; subst hu; rfl) (by omega) hbase h
set_option maxHeartbeats 8000000 in
theorem order_walk (l : List Int) {A : Option Addr} {n0 cp : Nat} {w : World} (hR : Reads w w.heap.size 1 A n0 (ints l)) (hn63 : n0 ≤ 9223372036854775807) :
    Calls Try.prog 4 #[.slice A n0 cp] w (Gives (.bool true) w) := by
  have H0 := Lib.hid (code.new 4 w (by omega) (by omega))
  have HR := Lib.hid hR
  have HA := Lib.hid (awake_any code)
  clear hR
  go_enter Try.func4, Try.ntmps4
  go_wp2_with fail
  refine H0.out.mono ?_
  rintro e w1 ⟨p, F1, rfl, h1, hF, hB⟩
  have HO1 := Lib.hid (show OS code w w1 p F1 (Q5 (fun _ => []) (fun _ => 0)) from ⟨h1, hF, hB⟩)
  clear h1 hF hB
  have M1 := mk5s w1
  have M2 := mk5i (w1.alloc (.cells (five (fun _ => Value.slice none 0 0)).toArray 54))
  rw [World.size_alloc] at M2
  obtain ⟨W2, hW2⟩ : ∃ W2, W2 = (w1.alloc (.cells (five (fun _ => Value.slice none 0 0)).toArray 54)).alloc (.cells (five (fun _ => Value.int .i64 0)).toArray 3) := ⟨_, rfl⟩
  have HOR := Lib.hid (show OR w W2 p F1 w1.heap.size (w1.heap.size + 1) (fun _ => .slice none 0 0) (fun _ => []) (fun _ => 0) from by rw [hW2]; exact or_start HO1.out)
  rw [← hW2] at M2
  clear hW2
  generalize w1.heap.size = X at *
  obtain ⟨Y, hY⟩ : ∃ Y, X + 1 = Y := ⟨_, rfl⟩
  rw [hY] at HOR M2
  clear hY
  go_wp2_with fail
  go_loopw [7] (fun s wr => ∃ (k : Nat) (F : Nat → Prop) (v : Nat → Value) (S : Nat → List ByteArray) (c : Nat → Nat), s = .int .i64 (k : Int) ∧ k ≤ n0 ∧ k ≤ 200 ∧ Hid (OR w wr p F X Y v S c ∧ ∀ j, j < 5 → (S j).length ≤ k)) (fun s _ => (200 - intOf s).toNat)
  case atStart => exact ⟨0, F1, _, _, _, rfl, by omega, by omega, Lib.hid ⟨HOR.out, fun j hj => by simp⟩⟩
  case round =>
    clear M1 M2 HO1 HOR
    obtain ⟨k, F, v, S, c, rfl, hk, hk2, HP⟩ := hrel
    by_cases hlt : k < n0 ∧ k < 200
    · have hltz : (k : Int) < (n0 : Int) := by omega
      have hlt2 : (k : Int) < 200 := by omega
      have hbw := HP.out.1.os.below
      obtain ⟨ad, rfl, hadb, hac⟩ := (HR.out.below hbw).int_at hlt.1
      have hadl : (ad.add k).block < wr.heap.size := by rw [block_of_add]; exact Nat.lt_of_lt_of_le hadb hbw.size
      generalize l.getD k 0 = a at *
      have ex := i64_and16 a
      obtain ⟨z, hz⟩ : ∃ z : Nat, a % 65536 = (z : Int) := ⟨(a % 65536).toNat, by have := Int.emod_nonneg a (show (65536 : Int) ≠ 0 by decide); omega⟩
      have hz2 : z < 65536 := by have := Int.emod_lt_of_pos a (show (0 : Int) < 65536 by decide); omega
      rw [hz] at ex
      have e1 : bits .and .i64 (z : Int) 1 = (z : Int) % 2 := i64_mask z 1 (by omega)
      clear hz hbw hadb
      obtain ⟨j, hj⟩ : ∃ j, z / 2 % 5 = j := ⟨_, rfl⟩
      have hjz : (z : Int) / 2 % 5 = (j : Int) := by rw [← hj]; rfl
      have hj5 : j < 5 := by omega
      clear hj
      by_cases hev : z % 2 = 0
      · have hm : (z : Int) % 2 = 0 := by omega
        obtain ⟨u, hu⟩ : ∃ u, k % 16 = u := ⟨_, rfl⟩
        obtain ⟨t, ht⟩ : ∃ t, k / 16 = t := ⟨_, rfl⟩
        have e15 : bits .and .i64 (k : Int) 15 = (u : Int) := by rw [← hu]; exact i64_mask (k : Int) 4 (by omega)
        have e16 : (k : Int) / 16 = (t : Int) := by rw [← ht]; rfl
        have hu2 : u < 16 := by omega
        have ht2 : t < 13 := by omega
        have wu : IntKind.i64.wrap (97 + (u : Int)) = 97 + (u : Int) := by rw [IntKind.wrap_i64]; omega
        have wt : IntKind.i64.wrap (97 + (t : Int)) = 97 + (t : Int) := by rw [IntKind.wrap_i64]; omega
        have wu8 : IntKind.u8.wrap (97 + (u : Int)) = 97 + (u : Int) := by rw [IntKind.wrap_u8]; omega
        have wt8 : IntKind.u8.wrap (97 + (t : Int)) = 97 + (t : Int) := by rw [IntKind.wrap_u8]; omega
        have hcv := two_conv wr (i := u) (j := t) (by omega) (by omega)
        have hz3 : (two u t).size ≤ 1000 := by show 2 ≤ 1000; omega
        generalize two u t = s at *
        obtain ⟨Wc, hWc⟩ : ∃ Wc, Wc = wr.alloc (.cells #[.int .u8 (97 + (u : Int)), .int .u8 (97 + (t : Int))] 5) := ⟨_, rfl⟩
        have HPc := Lib.hid (show OR w Wc p F X Y v S c ∧ ∀ j, j < 5 → (S j).length ≤ k from ⟨by rw [hWc]; exact HP.out.1.on ((Below.refl _ wr).alloc (Nat.le_refl _) _), HP.out.2⟩)
        have hcw : (convert 53 9 (.slice (some ⟨wr.heap.size, 0, none⟩) 2 2)).run Try.prog (wr.alloc (.cells #[.int .u8 (97 + (u : Int)), .int .u8 (97 + (t : Int))] 5)) = .ok (.string s) Wc := by rw [hWc]; exact hcv
        clear hWc hu ht hcv
        have HS := Lib.hid (code.send_is HPc.out.1.os.road (-1) ((j : Int) - 1) s (in64 (by decide)) (in64 (by omega)) (by unfold maxLen; omega) (q5_send hj5 (HPc.out.1.cle j hj5) (by have := HPc.out.2 j hj5; omega) hz3))
        clear hz3
        go_wp2_with fail
        refine HS.out.mono ?_
        rintro e w2 ⟨rfl, F2, h2, T2⟩
        obtain ⟨g1, g2, g3, g4, g5, g6, g7⟩ := HPc.out.1.goes h2 T2
        have ho := g6.own j hj5
        obtain ⟨Aj, cj, hvj, _, _⟩ := own_shape ho
        have sxc : w2.cell? ⟨X, j, none⟩ = some (.slice Aj (S j).length cj) := g2.cell ((five_at v hj5).trans (by rw [hvj]))
        have sxl := g2.lt
        have hnS : (S j).length ≤ 1000000 := by have := HPc.out.2 j hj5; omega
        have HN := Lib.hid (fun (w3 : World) (v' : Value) (ho' : w3.ownsRow w.heap.size 9 1 v' ((S j).length + 1) (strs (S j) ++ [.string s])) (hg : w2.grownBy w3 (Value.slice Aj (S j).length cj).ownBlock) (hn : v'.ownBlock = (Value.slice Aj (S j).length cj).ownBlock ∨ ∀ k, v'.ownBlock = some k → w2.heap.size ≤ k) =>
          show (w3.cell? ⟨X, j, none⟩ = some (.slice Aj (S j).length cj) ∧ w3.frozen? ⟨X, j, none⟩ = false ∧ X < w3.heap.size) ∧ (OR w (w3.setCell ⟨X, j, none⟩ v') p F2 X Y (upd v j v') (upd S j (S j ++ [s])) c ∧ ∀ i, i < 5 → (upd S j (S j ++ [s]) i).length ≤ k + 1) from by
            rw [← hvj] at hg hn
            have hb : w3.heap[X]? = w2.heap[X]? := hg.block X sxl (fun e => (g7 j hj5 X e.symm).2.1 rfl)
            refine ⟨⟨(cell_blk (a := ⟨X, j, none⟩) hb).trans sxc, (g2.keep hb).frozen j, Nat.lt_of_lt_of_le sxl hg.size⟩, OR.sent hj5 g1 g2 g3 g4 g5 g6 g7 HPc.out.1 (by rw [strs_snoc] at ho'; simpa using ho') hg hn, fun i hi => ?_⟩
            by_cases hij : i = j
            · rw [hij, upd_same, List.length_append]
              have := HPc.out.2 j hj5
              simp
              omega
            · rw [upd_ne _ _ hij]
              have := HPc.out.2 i hi
              omega)
        have HOW := Lib.hid (show w2.ownsRow w.heap.size 9 1 (.slice Aj (S j).length cj) (S j).length (strs (S j)) by rw [← hvj]; exact ho)
        have HWS := Lib.hid (show w.heap.size ≤ w2.heap.size from g1.below.size)
        have jz1 : (0 : Int) ≤ (j : Int) := by omega
        have jz5 : (j : Int) < 5 := by omega
        clear h2 T2 HS HP HPc g1 g2 g3 g4 g5 g6 g7 ho hvj hcw
        generalize hlen : (S j).length = nj at *
        go_wp2_with (at_builtin; refine append_str rfl (.tmp 70) (.tmp 72) rfl w.heap.size _ nj _ s rfl HOW.out _ rfl rfl hnS HWS.out ?_; intro v' w3 ho3 hg3 hn3; obtain ⟨A3, c3, rfl, _, _⟩ := own_shape ho3; obtain ⟨⟨x1, x2, x3⟩, hE⟩ := HN.out _ _ ho3 hg3 hn3; have HE := Lib.hid hE; clear hE ho3 hg3 hn3)
        exact ⟨⟨k + 1, F2, _, _, c, by go_num, by omega, by omega, HE⟩, by simp [intOf]; omega⟩
      · have hm : (z : Int) % 2 = 1 := by omega
        have jz1 : (0 : Int) ≤ (j : Int) := by omega
        have jz5 : (j : Int) < 5 := by omega
        have hle := HP.out.1.cle j hj5
        have HSL := Lib.hid HP.out.2
        rcases Nat.eq_or_lt_of_le hle with hcj | hcj
        · have HS := Lib.hid (code.next_is HP.out.1.os.road ((j : Int) - 1) (in64 (by omega)) (q5_none hj5 hcj))
          go_wp2_with fail
          refine HS.out.mono ?_
          rintro e w2 ⟨rfl, F2, h2, T2⟩
          have o2 := HP.out.1.still h2 T2
          have o3 := o2.on ((Below.refl _ w2).alloc (Nat.le_refl _) (.cells #[.int .i64 0, .int .i64 0, .string ⟨#[]⟩] 34))
          clear h2 T2 HS HP o2
          go_wp2_with fail
          generalize w2.alloc (.cells #[.int .i64 0, .int .i64 0, .string ⟨#[]⟩] 34) = W3 at *
          obtain ⟨Aj, cw, hvj, _, _⟩ := own_shape (o3.rows.own j hj5)
          have sxc : W3.cell? ⟨X, j, none⟩ = some (.slice Aj (S j).length cw) := o3.sx.cell ((five_at v hj5).trans (by rw [hvj]))
          have cyc : W3.cell? ⟨Y, j, none⟩ = some (.int .i64 ((S j).length : Int)) := o3.cy.cell ((five_at _ hj5).trans (by rw [hcj]))
          have sxl := o3.sx.lt
          have cyl := o3.cy.lt
          have HE := Lib.hid (fun q => o3.on (below_drewN (Below.refl _ W3) q))
          clear o3 hvj hcj hle
          generalize hlen : (S j).length = nj at *
          clear hlen
          go_quiet (fail)
          go_wp2_with fail
          exact ⟨⟨k + 1, F2, _, _, c, by go_num, by omega, by omega, Lib.hid ⟨HE.out _, fun i hi => Nat.le_succ_of_le (HSL.out i hi)⟩⟩, by simp [intOf]; omega⟩
        · have HS := Lib.hid (code.next_is HP.out.1.os.road ((j : Int) - 1) (in64 (by omega)) (q5_next hj5 hcj))
          go_wp2_with fail
          refine HS.out.mono ?_
          rintro e w2 ⟨rfl, F2, h2, T2⟩
          obtain ⟨g1, g2, g3, g4, g5, g6, g7⟩ := HP.out.1.goes h2 T2
          obtain ⟨s, hs⟩ : ∃ s, (S j).getD (c j) ⟨#[]⟩ = s := ⟨_, rfl⟩
          simp only [hs]
          obtain ⟨W3, hW3⟩ : ∃ W3, W3 = w2.alloc (.cells #[.int .i64 (-1), .int .i64 ((j : Int) - 1), .string s] 34) := ⟨_, rfl⟩
          have hb3 : Below w2.heap.size w2 W3 := by rw [hW3]; exact (Below.refl _ w2).alloc (Nat.le_refl _) _
          have HE := Lib.hid (fun q => HP.out.1.came hj5 hcj h2 T2 (below_drewN hb3 q))
          have ho := g6.own j hj5
          obtain ⟨Aj, cw, hvj, _, _⟩ := own_shape ho
          rw [hvj] at ho
          obtain ⟨ae, ue, rfl, hae, hux, huc⟩ := (Reads.of_own ho).at_ hcj
          have hue : ue = .string s := by
            unfold strs at hux
            rw [List.getElem?_map] at hux
            obtain ⟨y, hy, rfl⟩ := Option.map_eq_some_iff.1 hux
            rw [← hs, List.getD_eq_getElem?_getD, hy]
            rfl
          rw [hue] at huc
          have ec : W3.cell? (ae.add (c j)) = some (.string s) := (hb3.cell (by rw [block_of_add]; exact hae)).trans huc
          have el : (ae.add (c j)).block < W3.heap.size := by rw [block_of_add]; exact Nat.lt_of_lt_of_le hae hb3.size
          have r2 := g2.keep (hb3.block _ g2.lt)
          have r3 := g3.keep (hb3.block _ g3.lt)
          have sxc : W3.cell? ⟨X, j, none⟩ = some (.slice (some ae) (S j).length cw) := r2.cell ((five_at v hj5).trans (by rw [hvj]))
          have cyc : W3.cell? ⟨Y, j, none⟩ = some (.int .i64 (c j : Int)) := r3.cell (five_at _ hj5)
          have cyf := r3.frozen j
          have sxl := r2.lt
          have cyl := r3.lt
          have rl : Row W3 w2.heap.size 34 (lc (lL j s)) := by rw [hW3]; exact Row.new w2 _ _
          have lm1 := rl.cell (j := 1) (u := .int .i64 ((j : Int) - 1)) rfl
          have lm2 := rl.cell (j := 2) (u := .string s) rfl
          have lml := rl.lt
          generalize hM : w2.heap.size = M at *
          have HW3 := Lib.hid hW3
          clear hW3 rl r2 r3 hux huc hue ho hvj g1 g2 g3 g4 g5 g6 g7 h2 T2 HS HP hb3 hs hae
          have hcz : (c j : Int) < ((S j).length : Int) := by omega
          have hcn : ¬ (c j : Int) = ((S j).length : Int) := by omega
          have hce : c j ≤ 200 := by have := HSL.out j hj5; omega
          have hc2 : c j < (S j).length := hcj
          generalize hlen : (S j).length = nj at *
          generalize hcm : c j = m at *
          clear hlen hcm hcj hle
          go_wp2_with fail
          rw [← HW3.out]
          go_quiet (fail)
          go_wp2_with fail
          go_quiet (fail)
          go_wp2_with fail
          exact ⟨⟨k + 1, F2, _, _, _, by go_num, by omega, by omega, Lib.hid ⟨HE.out _, fun i hi => Nat.le_succ_of_le (HSL.out i hi)⟩⟩, by simp [intOf]; omega⟩
    · have hnl : ¬ ((k : Int) < (n0 : Int)) ∨ ¬ ((k : Int) < 200) := by omega
      have HB := Lib.hid HP.out.1.os.below
      rcases hnl with hnl | hnl
      · go_wp2_with fail
        refine (HA.out wr).mono ?_
        rintro e w9 ⟨rfl, hb9⟩
        go_wp2_with fail
        go_ret
        exact ⟨rfl, HB.out.trans (hb9.mono HB.out.size)⟩
      · by_cases hnl2 : (k : Int) < (n0 : Int)
        · go_wp2_with fail
          refine (HA.out wr).mono ?_
          rintro e w9 ⟨rfl, hb9⟩
          go_wp2_with fail
          go_ret
          exact ⟨rfl, HB.out.trans (hb9.mono HB.out.size)⟩
        · go_wp2_with fail
          refine (HA.out wr).mono ?_
          rintro e w9 ⟨rfl, hb9⟩
          go_wp2_with fail
          go_ret
          exact ⟨rfl, HB.out.trans (hb9.mono HB.out.size)⟩
end Go.Proofs.Ytikbgaomiliefaa.Ro
