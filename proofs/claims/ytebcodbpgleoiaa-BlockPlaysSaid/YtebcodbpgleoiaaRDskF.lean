/- What Fail of the document's disk returns. Conditions: a disk in memory. -/
import Derived.Test.YtebcodbpgleoiaaRDskE
set_option linter.unusedVariables false
set_option linter.unusedSimpArgs false
namespace Go.Proofs.Ytebcodbpgleoiaa
open Go Go.RowKit
theorem tearB_le {s had : ByteArray} {k : Nat} (h : had.size ≤ k) : tearB s had k = s.extract 0 k := by
  unfold tearB
  rw [Nat.min_eq_right h]
  simp
theorem RPost.alloc {P0 : Nat → Prop} {w w' : World} {su : List ByteArray} {l : List (Nat × ByteArray)} {e : Ending} (h : RPost P0 w su l e w') (o : Obj) : RPost P0 w su l e (w'.alloc o) := by
  obtain ⟨v, P, he, hR, hP, hB⟩ := h
  exact ⟨v, P, he, hR.below ((Below.refl _ w').alloc (Nat.le_refl _) o), hP, hB.alloc hB.size o⟩
set_option maxRecDepth 100000 in
theorem rfail_any {w : World} {P : Nat → Prop} {v : Value} {su : List ByteArray} {l : List (Nat × ByteArray)} (h : RD w P v su l) (hl : l.length ≤ 1000000) (hs : su.length ≤ 1000000) (hp : ∀ p ∈ l, p.1 < su.length ∧ p.2.size ≤ 128) (hsm : ∀ s ∈ su, s.size ≤ 128) (keep torn : Int)
    (hk1 : -9223372036854775808 ≤ keep) (hk2 : keep ≤ 9223372036854775807) (ht1 : -9223372036854775808 ≤ torn) (ht2 : torn ≤ 9223372036854775807) : Calls Try.prog 17 #[v, .int .i64 keep, .int .i64 torn] w (RPost P w (failP l su keep torn) []) := by
  obtain ⟨A1, c1, A2, c2, rfl⟩ := h.form
  obtain ⟨W, hW⟩ : ∃ W, W = (w.alloc (.cells #[.slice A1 su.length c1, .slice A2 l.length c2] 31)).alloc (.cells #[.slice none 0 0, .slice none 0 0] 31) := ⟨_, rfl⟩
  have hB : Below w.heap.size w W := by rw [hW]; exact ((Below.refl _ w).alloc (Nat.le_refl _) _).alloc (by simp) _
  have hlt : W.heap.size = w.heap.size + 2 := by rw [hW]; simp
  have x : Row W w.heap.size 31 [.slice A1 su.length c1, .slice A2 l.length c2] := by
    rw [hW]
    have := Row.new w 31 [.slice A1 su.length c1, .slice A2 l.length c2]
    exact this.keep (heap_alloc_lt _ _ this.lt)
  have y : Row W (w.heap.size + 1) 31 [.slice none 0 0, .slice none 0 0] := by
    rw [hW]
    have := Row.new (w.alloc (.cells #[.slice A1 su.length c1, .slice A2 l.length c2] 31)) 31 [.slice none 0 0, .slice none 0 0]
    simpa using this
  have hz0 : w.heap.size < W.heap.size := by omega
  have hz1 : w.heap.size + 1 < W.heap.size := by omega
  have hR := h.below hB
  have hcut := rcut_any keep l.length hk1 hk2 hl
  obtain ⟨m, hm⟩ : ∃ m, shr keep l.length = m := ⟨_, rfl⟩
  have hml : m ≤ l.length := by rw [← hm]; exact shr_le _ _
  rw [hm] at hcut
  have hfi := rfirst_any hR m hml hl hs (fun p hq => (hp p hq).1)
  have hx0 := x.cell (j := 0) rfl
  have hx1 := x.cell (j := 1) rfl
  have hcast : ((l.length + 1 : Nat) : Int) = (l.length : Int) + 1 := by omega
  rw [hcast] at hcut
  have hlz : (l.length : Int) ≤ 1000000 := by omega
  have HX := Lib.hid (And.intro hB (And.intro hR (And.intro x (And.intro y (And.intro hlt (And.intro h.lt (And.intro hcut (And.intro hfi hW))))))))
  have HP := Lib.hid (And.intro hp (And.intro hsm (And.intro hs (And.intro hml (And.intro hm (And.intro ht1 ht2))))))
  clear hcast hB h x y hW hlt hR hcut hfi hp hsm hs hml hk1 hk2 ht1 ht2 hl
  go_enter Try.func17, Try.ntmps17
  go_wp2_with fail
  rw [← HX.out.2.2.2.2.2.2.2.2]
  refine (HX.out.2.2.2.2.2.2.1 _).mono ?_
  rintro e w1 ⟨rfl, rfl⟩
  go_wp2_with fail
  refine HX.out.2.2.2.2.2.2.2.1.mono ?_
  rintro e w5 ⟨v5, P5, rfl, hR5, hP5, hB5⟩
  obtain ⟨A5, c5, B5, d5, rfl⟩ := hR5.form
  have hlen := setsP_len (l.take m) su
  have hB5w : Below W.heap.size W w5 := hB5
  have y5 := HX.out.2.2.2.1.keep (hB5w.block _ hz1)
  have x5 := HX.out.2.2.1.keep (hB5w.block _ hz0)
  have yc := y5.cell (j := 0) rfl
  have yd := y5.cell (j := 1) rfl
  have yz := y5.frozen 0
  have yw := y5.frozen 1
  have yl := y5.lt
  have xl := x5.lt
  have xc := x5.cell (j := 0) rfl
  have xd := x5.cell (j := 1) rfl
  by_cases hml : m = l.length
  · have hfp : failP l su keep torn = setsP (l.take m) su := by
      unfold failP
      rw [HP.out.2.2.2.2.1, hml, List.getElem?_eq_none (Nat.le_refl _), List.take_length]
    have HFP := Lib.hid hfp
    obtain ⟨q0, q1, q2⟩ := row2_set y5 (.slice A5 (setsP (l.take m) su).length c5) (.slice B5 0 d5)
    have fin := fun p q o => (rpost_out HX.out.1 hz1 (by omega) HX.out.2.2.2.2.2.1 hR5 hP5 hB5w p q).alloc o
    have FIN := Lib.hid fin
    clear fin y5 x5 hR5 hP5 hB5 hB5w hlen
    have hmz : (m : Int) = (l.length : Int) := by omega
    clear hml hfp
    generalize hN : (setsP (l.take m) su).length = N at *
    clear hN
    go_wp2_with fail
    refine bodyPost_ret (v := .agg #[.slice A5 N c5, .slice B5 0 d5]) (by simp [results, Try.results17, go_sem, yl, q0, q1, q2]) rfl ?_
    rw [HFP.out]
    exact FIN.out _ _ _
  · have hlt : m < l.length := by have := HP.out.2.2.2.1; omega
    have hg : l[m]? = some l[m] := List.getElem?_eq_getElem hlt
    obtain ⟨a', b', e', _, s2⟩ := HX.out.2.1.ex
    injection e' with e'
    simp at e'
    obtain ⟨rfl, rfl⟩ := e'
    obtain ⟨ad, cc, e2, hp2, d0, d1, hcc, hmm⟩ := s2.wr hlt
    injection e2 with e1 e2 e3
    subst e1 e3
    have hpw := HX.out.2.2.2.2.2.1 _ hp2
    have hbk : (ad.add (m * 2)).block < W.heap.size := by rw [block_of_add]; omega
    have f0 := (hB5w.cell (p := ad.add (m * 2)) hbk).trans d0
    have f1 := (hB5w.cell (p := ⟨(ad.add (m * 2)).block, (ad.add (m * 2)).off + 1, none⟩) hbk).trans d1
    have hlr : ad.block < w5.heap.size := Nat.lt_of_lt_of_le (by omega) (Nat.le_of_lt xl)
    have hmem : l[m] ∈ l := List.getElem_mem _
    obtain ⟨hpl, hps⟩ := HP.out.1 _ hmem
    have hfp : failP l su keep torn = tornP l[m] (setsP (l.take m) su) torn := by
      unfold failP
      rw [HP.out.2.2.2.2.1, hg]
    have HFP := Lib.hid hfp
    clear hfp
    generalize l[m] = p at *
    have hS5 := setsP_small (l := l.take m) (fun q hq => (HP.out.1 q (List.mem_of_mem_take hq)).2) su HP.out.2.1
    have hmlz : (m : Int) < (l.length : Int) := by omega
    have hmlz2 : ¬ (m : Int) = (l.length : Int) := by omega
    generalize hS : setsP (l.take m) su = S at *
    have hSl : S.length = su.length := hlen
    have hget := strs_get (l := S) (j := p.1) (by rw [hSl]; exact hpl)
    obtain ⟨a5, b5, e5, s5, _⟩ := hR5.ex
    injection e5 with e5
    simp at e5
    obtain ⟨rfl, rfl⟩ := e5
    obtain ⟨ad5, cc5, e6, hp5, g0, _, _⟩ := s5.at_ hget
    injection e6 with e61 e62 e63
    subst e61 e63
    have hp5l := hR5.lt _ hp5
    have hS1 := hS5 (S.getD p.1 ⟨#[]⟩) (by
      rw [List.getD_eq_getElem?_getD, List.getElem?_eq_getElem (by rw [hSl]; exact hpl)]
      exact List.getElem_mem _)
    have hhad : ∃ had, S.getD p.1 ⟨#[]⟩ = had := ⟨_, rfl⟩
    obtain ⟨had, hhad⟩ := hhad
    rw [hhad] at g0 hS1
    have hplz : (p.1 : Int) < (su.length : Int) := by omega
    have hplS : (p.1 : Int) < (S.length : Int) := by omega
    have hcut2 := fun w => rcut_any torn p.2.size HP.out.2.2.2.2.2.1 HP.out.2.2.2.2.2.2 (by omega) w
    obtain ⟨t, ht⟩ : ∃ t, shr torn p.2.size = t := ⟨_, rfl⟩
    have htl : t ≤ p.2.size := by rw [← ht]; exact shr_le _ _
    rw [ht] at hcut2
    have hcast : ((p.2.size + 1 : Nat) : Int) = (p.2.size : Int) + 1 := by omega
    rw [hcast] at hcut2
    have hwi := fun (W7 : World) (h7 : RD W7 P5 (.agg #[.slice (some ad5) S.length c5, .slice B5 0 d5]) S []) => rwith_any h7 p.1 (by rw [hSl]; exact hpl) (by rw [hSl]; exact HP.out.2.2.1) (tearB p.2 had t)
    have htor : tornP p S torn = S.set p.1 (tearB p.2 had t) := by
      unfold tornP
      rw [ht, hhad]
    rw [htor] at HFP
    have hlr2 : (ad.add (m * 2)).block < w5.heap.size := by rw [block_of_add]; exact hlr
    have hlr3 : (ad5.add p.1).block < w5.heap.size := by rw [block_of_add]; exact hp5l
    have HW := Lib.hid hwi
    have HC := Lib.hid hcut2
    have HR := Lib.hid (And.intro hR5 (And.intro hP5 (And.intro hB5w (And.intro x5 y5))))
    clear hwi hcut2 hR5 hP5 hB5w hB5 x5 y5 htor hcast s5 s2 d0 d1 hbk hmem hg hlen hSl hget hS5
    obtain ⟨W7, hW7⟩ : ∃ W7, W7 = (w5.alloc (.cells #[.slice (some ad5) S.length c5, .slice B5 0 d5] 31)).alloc (.cells #[.int .i64 (p.1 : Int), .string p.2] 59) := ⟨_, rfl⟩
    have hB7 : Below w5.heap.size w5 W7 := by rw [hW7]; exact ((Below.refl _ w5).alloc (Nat.le_refl _) _).alloc (by simp) _
    have r1 : Row W7 w5.heap.size 31 [.slice (some ad5) S.length c5, .slice B5 0 d5] := by
      rw [hW7]
      have := Row.new w5 31 [.slice (some ad5) S.length c5, .slice B5 0 d5]
      exact this.keep (heap_alloc_lt _ _ this.lt)
    have r2 : Row W7 (w5.heap.size + 1) 59 [.int .i64 (p.1 : Int), .string p.2] := by
      rw [hW7]
      have := Row.new (w5.alloc (.cells #[.slice (some ad5) S.length c5, .slice B5 0 d5] 31)) 59 [.int .i64 (p.1 : Int), .string p.2]
      simpa using this
    have s7 : W7.heap.size = w5.heap.size + 2 := by rw [hW7]; simp
    have g7 := (hB7.cell (p := ad5.add p.1) hlr3).trans g0
    have y7 := HR.out.2.2.2.2.keep (hB7.block _ yl)
    have hz7 : ad5.block < W7.heap.size := by omega
    have k0 := r1.cell (j := 0) rfl
    have k1 := r1.cell (j := 1) rfl
    have k2 := r2.cell (j := 0) rfl
    have k3 := r2.cell (j := 1) rfl
    have kl0 := r1.lt
    have kl1 := r2.lt
    have yc7 := y7.cell (j := 0) rfl
    have yd7 := y7.cell (j := 1) rfl
    have yz7 := y7.frozen 0
    have yw7 := y7.frozen 1
    have yl7 := y7.lt
    have h7 := HW.out W7 (HR.out.1.below hB7)
    have H7 := Lib.hid (And.intro hW7 (And.intro hB7 (And.intro y7 (And.intro s7 h7))))
    go_wp2_with fail
    rw [← hW7]
    clear hW7 hB7 r1 r2 y7 s7 h7 f0 f1 hlr hlr2 hlr3 hp5l
    refine (HC.out _).mono ?_
    rintro e w8 ⟨rfl, rfl⟩
    by_cases hgt : t < had.size
    · have hgz : (t : Int) < (had.size : Int) := by omega
      have hte := tearB_in (s := p.2) (had := had) (k := t) (by omega)
      have HTE := Lib.hid hte
      clear hte hgt
      go_wp2_with fail
      have hc := H7.out.2.2.2.2
      rw [HTE.out] at hc
      refine hc.mono ?_
      rintro e w9 ⟨v9, P9, rfl, hR9, hP9, hB9⟩
      obtain ⟨A9, c9, B9, d9, rfl⟩ := hR9.form
      have hB9' : Below W7.heap.size W7 w9 := hB9
      have y9 := H7.out.2.2.1.keep (hB9'.block _ yl7)
      have yc9 := y9.cell (j := 0) rfl
      have yd9 := y9.cell (j := 1) rfl
      have yz9 := y9.frozen 0
      have yw9 := y9.frozen 1
      have yl9 := y9.lt
      rw [HTE.out] at HFP
      have fin := rpost_out HX.out.1 hz1 (by omega) HX.out.2.2.2.2.2.1 hR9 (fun x hx => .inr (by have := (hP9 x hx).elim False.elim id; have := H7.out.2.1.size; have := HR.out.2.2.1.size; omega)) ((HR.out.2.2.1.trans (H7.out.2.1.mono HR.out.2.2.1.size)).trans (hB9'.mono (Nat.le_trans HR.out.2.2.1.size H7.out.2.1.size)))
      have hN : ∃ N, N = (S.set p.1 (p.2.extract 0 t ++ had.extract t had.size)).length := ⟨_, rfl⟩
      obtain ⟨N, hN⟩ := hN
      rw [← hN] at fin
      rw [← HFP.out] at fin
      rw [← hN]
      obtain ⟨q0, q1, q2⟩ := row2_set y9 (.slice A9 N c9) (.slice B9 0 d9)
      have FIN := Lib.hid fin
      clear fin hR9 hP9 hB9 hB9' y9 hc hN HTE HFP
      go_wp2_with fail
      refine bodyPost_ret (v := .agg #[.slice A9 N c9, .slice B9 0 d9]) (by simp [results, Try.results17, go_sem, yl9, q0, q1, q2]) rfl ?_
      exact FIN.out _ _
    · have hgz : ¬ (t : Int) < (had.size : Int) := by omega
      have hte := tearB_le (s := p.2) (had := had) (k := t) (by omega)
      have HTE := Lib.hid hte
      clear hte hgt
      go_wp2_with fail
      have hc := H7.out.2.2.2.2
      rw [HTE.out] at hc
      refine hc.mono ?_
      rintro e w9 ⟨v9, P9, rfl, hR9, hP9, hB9⟩
      obtain ⟨A9, c9, B9, d9, rfl⟩ := hR9.form
      have hB9' : Below W7.heap.size W7 w9 := hB9
      have y9 := H7.out.2.2.1.keep (hB9'.block _ yl7)
      have yc9 := y9.cell (j := 0) rfl
      have yd9 := y9.cell (j := 1) rfl
      have yz9 := y9.frozen 0
      have yw9 := y9.frozen 1
      have yl9 := y9.lt
      rw [HTE.out] at HFP
      have fin := rpost_out HX.out.1 hz1 (by omega) HX.out.2.2.2.2.2.1 hR9 (fun x hx => .inr (by have := (hP9 x hx).elim False.elim id; have := H7.out.2.1.size; have := HR.out.2.2.1.size; omega)) ((HR.out.2.2.1.trans (H7.out.2.1.mono HR.out.2.2.1.size)).trans (hB9'.mono (Nat.le_trans HR.out.2.2.1.size H7.out.2.1.size)))
      have hN : ∃ N, N = (S.set p.1 (p.2.extract 0 t)).length := ⟨_, rfl⟩
      obtain ⟨N, hN⟩ := hN
      rw [← hN] at fin
      rw [← HFP.out] at fin
      rw [← hN]
      obtain ⟨q0, q1, q2⟩ := row2_set y9 (.slice A9 N c9) (.slice B9 0 d9)
      have FIN := Lib.hid fin
      clear fin hR9 hP9 hB9 hB9' y9 hc hN HTE HFP
      go_wp2_with fail
      refine bodyPost_ret (v := .agg #[.slice A9 N c9, .slice B9 0 d9]) (by simp [results, Try.results17, go_sem, yl9, q0, q1, q2]) rfl ?_
      exact FIN.out _ _
end Go.Proofs.Ytebcodbpgleoiaa
