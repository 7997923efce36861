/- What first and Sync of the document's disk return. Conditions: a disk in memory. -/
import Derived.Test.YtebcodbpgleoiaaRDskC
set_option linter.unusedVariables false
set_option linter.unusedSimpArgs false
namespace Go.Proofs.Ytebcodbpgleoiaa
open Go Go.RowKit
theorem setsP_step {l : List (Nat × ByteArray)} {i : Nat} (hi : i < l.length) (su : List ByteArray) : (setsP (l.take i) su).set l[i].1 l[i].2 = setsP (l.take (i + 1)) su := by
  rw [List.take_succ_eq_append_getElem hi, setsP_snoc]
theorem RD.form {w : World} {P : Nat → Prop} {v : Value} {su : List ByteArray} {l : List (Nat × ByteArray)} (h : RD w P v su l) : ∃ A c B d, v = .agg #[.slice A su.length c, .slice B l.length d] := by
  obtain ⟨a', b', rfl, h1, h2⟩ := h.ex
  obtain ⟨A, c, e1, _⟩ := h1.shape
  obtain ⟨B, d, e2, _⟩ := h2.shape
  exact ⟨A, c, B, d, by rw [e1, e2]⟩
theorem RD.shape {w : World} {P : Nat → Prop} {a b : Value} {su : List ByteArray} {l : List (Nat × ByteArray)} (h : RD w P (.agg #[a, b]) su l) : ∃ A c B d, a = .slice A su.length c ∧ b = .slice B l.length d := by
  obtain ⟨a', b', e, h1, h2⟩ := h.ex
  injection e with e
  simp at e
  obtain ⟨rfl, rfl⟩ := e
  obtain ⟨A, c, e1, _⟩ := h1.shape
  obtain ⟨B, d, e2, _⟩ := h2.shape
  exact ⟨A, c, B, d, e1, e2⟩
/-- The row of one variable of two cells, in a state of the walk. -/
structure FirstS (w W wr : World) (P : Nat → Prop) (su : List ByteArray) (l : List (Nat × ByteArray)) (i : Nat) : Prop where
  ex : ∃ a b Po, Row wr (w.heap.size + 2) 31 [a, b] ∧ RD wr Po (.agg #[a, b]) (setsP (l.take i) su) [] ∧ (∀ b, Po b → P b ∨ W.heap.size ≤ b)
  below : Below (w.heap.size + 2) W wr
theorem rfirst_any {w : World} {P : Nat → Prop} {v : Value} {su : List ByteArray} {l : List (Nat × ByteArray)} (h : RD w P v su l) (n : Nat) (hn : n ≤ l.length) (hl : l.length ≤ 1000000) (hs : su.length ≤ 1000000) (hp : ∀ p ∈ l, p.1 < su.length) : Calls Try.prog 25 #[v, .int .i64 (n : Int)] w (RPost P w (setsP (l.take n) su) []) := by
  obtain ⟨a, b, rfl, h1, h2⟩ := h.ex
  obtain ⟨A1, c1, rfl, hc1, hm1⟩ := h1.shape
  obtain ⟨A2, c2, rfl, hc2, hm2⟩ := h2.shape
  obtain ⟨x0, x1⟩ := box2 w (.slice A1 su.length c1) (.slice A2 l.length c2) 31
  obtain ⟨W, hW⟩ : ∃ W, W = ((w.alloc (.cells #[.slice A1 su.length c1, .slice A2 l.length c2] 31)).alloc (.cells #[.slice none 0 0, .slice none 0 0] 31)).alloc (.cells #[.slice A1 su.length c1, .slice none 0 0] 31) := ⟨_, rfl⟩
  have hB : Below w.heap.size w W := by rw [hW]; exact (((Below.refl _ w).alloc (Nat.le_refl _) _).alloc (by simp) _).alloc (by simp; omega) _
  have hlt : W.heap.size = w.heap.size + 3 := by rw [hW]; simp
  have x0' : W.cell? ⟨w.heap.size, 0, none⟩ = some (.slice A1 su.length c1) := by rw [hW]; exact ((World.cell?_alloc_lt _ _ _ (by simp; omega)).trans (World.cell?_alloc_lt _ _ _ (by simp))).trans x0
  have x1' : W.cell? ⟨w.heap.size, 1, none⟩ = some (.slice A2 l.length c2) := by rw [hW]; exact ((World.cell?_alloc_lt _ _ _ (by simp; omega)).trans (World.cell?_alloc_lt _ _ _ (by simp))).trans x1
  have y : Row W (w.heap.size + 2) 31 [.slice A1 su.length c1, .slice none 0 0] := by
    rw [hW]
    have := Row.new ((w.alloc (.cells #[.slice A1 su.length c1, .slice A2 l.length c2] 31)).alloc (.cells #[.slice none 0 0, .slice none 0 0] 31)) 31 [.slice A1 su.length c1, .slice none 0 0]
    simpa using this
  have z : Row W (w.heap.size + 1) 31 [.slice none 0 0, .slice none 0 0] := by
    rw [hW]
    have := Row.new (w.alloc (.cells #[.slice A1 su.length c1, .slice A2 l.length c2] 31)) 31 [.slice none 0 0, .slice none 0 0]
    have := this.keep (heap_alloc_lt _ (.cells #[.slice A1 su.length c1, .slice none 0 0] 31) this.lt)
    simpa using this
  have hR : RD W P (.agg #[.slice A1 su.length c1, .slice A2 l.length c2]) su l := h.below hB
  have h0 : FirstS w W W P su l 0 := ⟨⟨_, _, P, y, ⟨⟨_, _, rfl, h1.below h.lt hB, Sl.nil ..⟩, hR.lt⟩, fun b hb => .inl hb⟩, Below.refl _ _⟩
  have hz0 : w.heap.size < W.heap.size := by omega
  have hz1 : w.heap.size + 1 < W.heap.size := by omega
  have hz2 : w.heap.size + 2 < W.heap.size := by omega
  have HX := Lib.hid (And.intro hB (And.intro hR (And.intro h0 (And.intro z (And.intro hlt (And.intro hp (And.intro x0' x1')))))))
  have HN := Lib.hid (And.intro hn (And.intro hl (And.intro hs (And.intro hW h.lt))))
  clear x0 x1 h1 h2 h hR h0 z y hB hp hlt hc1 hm1 hn hl hs
  go_enter Try.func25, Try.ntmps25
  go_wp2_with fail
  rw [← HN.out.2.2.2.1]
  clear hW
  go_loopw [6] (fun i wr => ∃ m : Nat, i = .int .i64 (m : Int) ∧ m ≤ n ∧ FirstS w W wr P su l m) (fun i _ => n - (intOf i).toNat)
  case atStart => exact ⟨0, rfl, Nat.zero_le _, HX.out.2.2.1⟩
  case round =>
    obtain ⟨m, rfl, hm, hS⟩ := hrel
    obtain ⟨⟨a, b, Po, y, hRo, hPo⟩, hB⟩ := hS
    obtain ⟨Aa, ca, Bb, cb, rfl, rfl⟩ := hRo.shape
    have hz0r := Nat.lt_of_lt_of_le hz0 hB.size
    have hz1r := Nat.lt_of_lt_of_le hz1 hB.size
    have hz2r := Nat.lt_of_lt_of_le hz2 hB.size
    have x0 := (hB.cell (p := ⟨w.heap.size, 0, none⟩) (by simp)).trans HX.out.2.2.2.2.2.2.1
    have x1 := (hB.cell (p := ⟨w.heap.size, 1, none⟩) (by simp)).trans HX.out.2.2.2.2.2.2.2
    have y0 := y.cell (j := 0) rfl
    have y1 := y.cell (j := 1) rfl
    by_cases hlt : m < n
    · have hltz : (m : Int) < (n : Int) := by omega
      have hmb : m < 1000000 := by have := HN.out.1; have := HN.out.2.1; omega
      have HLT := Lib.hid (show m + 1 ≤ n from hlt)
      have hml : m < l.length := by have := HN.out.1; omega
      have hllz : (m : Int) < (l.length : Int) := by omega
      obtain ⟨a', b', e', _, s2⟩ := HX.out.2.1.ex
      injection e' with e'
      simp at e'
      obtain ⟨rfl, rfl⟩ := e'
      obtain ⟨ad, cc, e2, hp2, d0, d1, hcc, hmm⟩ := s2.wr hml
      injection e2 with e1 e2 e3
      subst e1 e3
      have hpw := HN.out.2.2.2.2 _ hp2
      have hbk : (ad.add (m * 2)).block < w.heap.size + 2 := by rw [block_of_add]; omega
      have f0 := (hB.cell (p := ad.add (m * 2)) hbk).trans d0
      have f1 := (hB.cell (p := ⟨(ad.add (m * 2)).block, (ad.add (m * 2)).off + 1, none⟩) hbk).trans d1
      have hlr : ad.block < wr.heap.size := Nat.lt_of_lt_of_le (by omega) (Nat.le_of_lt hz0r)
      have hlen := setsP_len (l.take m) su
      have hC := rwith_any (show RD wr.drew _ _ _ _ from hRo.keep (fun _ _ => rfl) (Nat.le_refl _)) l[m].1 (by rw [hlen]; exact HX.out.2.2.2.2.2.1 _ (List.getElem_mem _)) (by rw [hlen]; exact HN.out.2.2.1) l[m].2
      rw [setsP_step hml] at hC
      have HC := Lib.hid hC
      have HR := Lib.hid (And.intro y (And.intro hRo (And.intro hPo hB)))
      generalize (setsP (l.take m) su).length = N at *
      clear hC y hRo hPo hB d0 d1 s2 hlen hbk
      generalize l[m] = p at *
      go_wp2_with fail
      go_still_tail 13, (by kernel_rfl)
      change wpList _ _ _ _ _ wr.drew
      go_wp2_with (go_at_call 29; refine HC.out.mono ?_; rintro e w5 ⟨v5, P5, rfl, hR5, hP5, hB5⟩; obtain ⟨A5, c5, B5, d5, rfl⟩ := hR5.form; have y5 := HR.out.1.keep (hB5.block _ hz2r); have y50 := y5.cell (j := 0) rfl; have y51 := y5.cell (j := 1) rfl; have yz0 := y5.frozen 0; have yz1 := y5.frozen 1; have yl := y5.lt; have H5 := Lib.hid (And.intro hR5 (And.intro hP5 (And.intro hB5 y5))); clear hR5 hP5 hB5 y5)
      go_roundw
      case rel =>
        refine ⟨m + 1, by go_num, HLT.out, ⟨⟨_, _, P5, (H5.out.2.2.2.set 0 _).set 1 _, H5.out.1.keep (fun x hx => ?_) (by simp), fun x hx => .inr ?_⟩, ?_⟩⟩
        · have h6 := H5.out.2.1 x hx
          have h7 : wr.heap.size ≤ x := h6.elim False.elim id
          rw [heap_set_ne _ _ _ (by show x ≠ w.heap.size + 2; omega), heap_set_ne _ _ _ (by show x ≠ w.heap.size + 2; omega)]
        · have h6 := H5.out.2.1 x hx
          have h7 : wr.heap.size ≤ x := h6.elim False.elim id
          have := HR.out.2.2.2.size
          omega
        · exact below_setCell (below_setCell ((below_drewN HR.out.2.2.2 1).trans (H5.out.2.2.1.mono (by show _ ≤ wr.heap.size; omega))) (by simp) _) (by simp) _
      case measure => have := HLT.out; simp [intOf]; omega
    · have hltz : ¬ (m : Int) < (n : Int) := by omega
      have hmn : m = n := by omega
      subst hmn
      have z' := HX.out.2.2.2.1.keep (hB.block _ (by omega))
      obtain ⟨q0, q1, q2⟩ := row2_set z' (.slice Aa (setsP (l.take m) su).length ca) (.slice Bb 0 cb)
      have zc := z'.cell (j := 0) rfl
      have zd := z'.cell (j := 1) rfl
      have zz := z'.frozen 0
      have zw := z'.frozen 1
      have HR := Lib.hid (And.intro y (And.intro hRo (And.intro hPo hB)))
      clear y hRo hPo hB z'
      go_wp2_with fail
      refine bodyPost_ret (v := .agg #[.slice Aa (setsP (l.take m) su).length ca, .slice Bb 0 cb]) (by simp [results, Try.results25, go_sem, hz1r, q0, q1, q2]) rfl ?_
      refine ⟨_, Po, rfl, HR.out.2.1.keep (fun x hx => ?_) ?_, fun x hx => ?_, ?_⟩
      · have hx' := HR.out.2.2.1 x hx
        have hw := HN.out.2.2.2.2
        have hl' := HX.out.2.2.2.2.1
        have hne : x ≠ w.heap.size + 1 := by
          rcases hx' with h | h
          · have := hw x h
            omega
          · omega
        rw [heap_set_ne _ _ _ hne, heap_set_ne _ _ _ hne]
      · simp
      · rcases HR.out.2.2.1 x hx with h | h
        · exact .inl h
        · exact .inr (by have := HX.out.2.2.2.2.1; omega)
      · exact below_setCell (below_setCell (HX.out.1.trans (HR.out.2.2.2.mono (by omega))) (by simp) _) (by simp) _
theorem RD.put {w : World} {P : Nat → Prop} {v : Value} {su : List ByteArray} {l : List (Nat × ByteArray)} (h : RD w P v su l) {b : Nat} (hb : ¬ P b) (p q : Value) : RD ((w.setCell ⟨b, 0, none⟩ p).setCell ⟨b, 1, none⟩ q) P v su l :=
  h.keep (fun x hx => by
    have hne : x ≠ b := fun e => hb (e ▸ hx)
    rw [heap_set_ne _ _ _ hne, heap_set_ne _ _ _ hne]) (by simp)
theorem rpost_out {w W w5 : World} {b : Nat} {P P5 : Nat → Prop} {v : Value} {su : List ByteArray} {l : List (Nat × ByteArray)} (hB : Below w.heap.size w W) (hb : b < W.heap.size) (hge : w.heap.size ≤ b) (hP : ∀ x, P x → x < w.heap.size)
    (hR5 : RD w5 P5 v su l) (hP5 : ∀ x, P5 x → P x ∨ W.heap.size ≤ x) (hB5 : Below W.heap.size W w5) (p q : Value) : RPost P w su l (.returned v) ((w5.setCell ⟨b, 0, none⟩ p).setCell ⟨b, 1, none⟩ q) := by
  have := hB.size
  refine ⟨_, P5, rfl, hR5.put (fun h => ?_) p q, fun x hx => (hP5 x hx).imp id (fun h => by omega), below_setCell (below_setCell (hB.trans (hB5.mono hB.size)) hge _) hge _⟩
  rcases hP5 b h with h | h
  · have := hP b h
    omega
  · omega
theorem rsync_any {w : World} {P : Nat → Prop} {v : Value} {su : List ByteArray} {l : List (Nat × ByteArray)} (h : RD w P v su l) (hl : l.length ≤ 1000000) (hs : su.length ≤ 1000000) (hp : ∀ p ∈ l, p.1 < su.length) : Calls Try.prog 15 #[v] w (RPost P w (setsP l su) []) := by
  obtain ⟨A1, c1, A2, c2, rfl⟩ := h.form
  obtain ⟨x0, x1⟩ := box2 w (.slice A1 su.length c1) (.slice A2 l.length c2) 31
  obtain ⟨W, hW⟩ : ∃ W, W = (w.alloc (.cells #[.slice A1 su.length c1, .slice A2 l.length c2] 31)).alloc (.cells #[.slice none 0 0, .slice none 0 0] 31) := ⟨_, rfl⟩
  have hB : Below w.heap.size w W := by rw [hW]; exact ((Below.refl _ w).alloc (Nat.le_refl _) _).alloc (by simp) _
  have hlt : W.heap.size = w.heap.size + 2 := by rw [hW]; simp
  have x0' : W.cell? ⟨w.heap.size, 0, none⟩ = some (.slice A1 su.length c1) := by rw [hW]; exact (World.cell?_alloc_lt _ _ _ (by simp)).trans x0
  have x1' : W.cell? ⟨w.heap.size, 1, none⟩ = some (.slice A2 l.length c2) := by rw [hW]; exact (World.cell?_alloc_lt _ _ _ (by simp)).trans x1
  have z : Row W (w.heap.size + 1) 31 [.slice none 0 0, .slice none 0 0] := by
    rw [hW]
    have := Row.new (w.alloc (.cells #[.slice A1 su.length c1, .slice A2 l.length c2] 31)) 31 [.slice none 0 0, .slice none 0 0]
    simpa using this
  have hz0 : w.heap.size < W.heap.size := by omega
  have hz1 : w.heap.size + 1 < W.heap.size := by omega
  have hC := fun q => rfirst_any (show RD (W.drewN q) _ _ _ _ from (h.below hB).keep (fun _ _ => rfl) (Nat.le_refl _)) l.length (Nat.le_refl _) hl hs hp
  rw [List.take_length] at hC
  have HX := Lib.hid (And.intro hB (And.intro z (And.intro hlt (And.intro hC (And.intro hW h.lt)))))
  clear x0 x1 h z hB hlt hC hl hs hp
  go_enter Try.func15, Try.ntmps15
  go_wp2_with fail
  rw [← HX.out.2.2.2.2.1]
  refine (HX.out.2.2.2.1 0).mono ?_
  rintro e w5 ⟨v5, P5, rfl, hR5, hP5, hB5⟩
  obtain ⟨A5, c5, B5, d5, rfl⟩ := hR5.form
  have hB5' : Below W.heap.size W w5 := hB5
  have y5 := HX.out.2.1.keep (hB5'.block _ hz1)
  have y50 := y5.cell (j := 0) rfl
  have y51 := y5.cell (j := 1) rfl
  have yz0 := y5.frozen 0
  have yz1 := y5.frozen 1
  have yl := y5.lt
  obtain ⟨q0, q1, q2⟩ := row2_set y5 (.slice A5 (setsP l su).length c5) (.slice B5 0 d5)
  have H5 := Lib.hid (And.intro hR5 (And.intro hP5 hB5'))
  clear hR5 hP5 hB5 y5 hB5'
  go_wp2_with fail
  refine bodyPost_ret (v := .agg #[.slice A5 (setsP l su).length c5, .slice B5 0 d5]) (by simp [results, Try.results15, go_sem, yl, q0, q1, q2]) rfl ?_
  exact rpost_out HX.out.1 hz1 (by omega) HX.out.2.2.2.2.2 H5.out.1 H5.out.2.1 H5.out.2.2 _ _
end Go.Proofs.Ytebcodbpgleoiaa
