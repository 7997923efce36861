/- The walk of BlockPlays. Conditions: none. -/
import Derived.Test.YtebcodbpgleoiaaRDskF
set_option linter.unusedVariables false
set_option linter.unusedSimpArgs false
namespace Go.Proofs.Ytebcodbpgleoiaa
open Go Go.RowKit
/-- A disk and the document's, in blocks apart; the document's is a variable's value. -/
structure PlayS (W w : World) (N d tq : Nat) (F P : Nat → Prop) (a b : Value) (su : List ByteArray) (l : List (Nat × ByteArray)) (su' : List ByteArray) (l' : List (Nat × ByteArray)) : Prop where
  disk : Disk w F d N su l
  rd : RD w P (.agg #[a, b]) su' l'
  row : Row w tq 31 [a, b]
  fp : ∀ x, F x → ¬ P x
  ft : ¬ F tq
  pt : ¬ P tq
  fb : ∀ x, F x → W.heap.size ≤ x
  tb : W.heap.size ≤ tq
  below : Below W.heap.size W w
section
variable {W w w' : World} {N d tq : Nat} {F F' P P' : Nat → Prop} {a b a' b' : Value} {su su' su2 su3 : List ByteArray} {l l' l2 l3 : List (Nat × ByteArray)}
theorem PlayS.step (h : PlayS W w N d tq F P a b su l su' l') (hb : Below w.heap.size w w') : PlayS W w' N d tq F P a b su l su' l' :=
  ⟨h.disk.below hb, h.rd.below hb, h.row.keep (hb.block _ h.row.lt), h.fp, h.ft, h.pt, h.fb, h.tb, below_then h.below hb⟩
theorem PlayS.turn (h : PlayS W w N d tq F P a b su l su' l') (t : Turn F w F' w') (hd : Disk w' F' d N su2 l2) : PlayS W w' N d tq F' P a b su2 l2 su' l' :=
  ⟨hd, h.rd.keep (fun x hx => t.block x (h.rd.lt x hx) (fun hf => h.fp x hf hx)) t.size, h.row.keep (t.block _ h.row.lt h.ft),
   fun x hx hp => (t.foot x hx).elim (fun hf => h.fp x hf hp) (fun hs => by have := h.rd.lt x hp; omega),
   fun hf => (t.foot _ hf).elim h.ft (fun hs => by have := h.row.lt; omega), h.pt, t.far h.fb h.below.size, h.tb, h.below.trans (t.down h.fb h.below.size)⟩
theorem PlayS.set (h : PlayS W w N d tq F P a b su l su' l') (hr : RD w P' (.agg #[a', b']) su2 l2) (hfp : ∀ x, F x → ¬ P' x) (hpt : ¬ P' tq) : PlayS W ((w.setCell ⟨tq, 0, none⟩ a').setCell ⟨tq, 1, none⟩ b') N d tq F P' a' b' su l su2 l2 := by
  refine ⟨h.disk.keep (fun x hx => ?_) (by simp), hr.put hpt a' b', (h.row.set 0 a').set 1 b', hfp, h.ft, hpt, h.fb, h.tb, below_setCell (below_setCell h.below h.tb _) h.tb _⟩
  have hne : x ≠ tq := fun e => h.ft (e ▸ hx)
  rw [heap_set_ne _ _ _ hne, heap_set_ne _ _ _ hne]
/-- What the document's call brings, as a disk beside. -/
theorem PlayS.beside (h : PlayS W w N d tq F P a b su l su' l') (hP : ∀ x, P' x → P x ∨ w.heap.size ≤ x) : (∀ x, F x → ¬ P' x) ∧ ¬ P' tq :=
  ⟨fun x hx hp => (hP x hp).elim (h.fp x hx) (fun hs => by have := h.disk.lt x hx; omega), fun hp => (hP _ hp).elim h.pt (fun hs => by have := h.row.lt; omega)⟩
end
theorem rget_at {w : World} {P : Nat → Prop} {v : Value} {su : List ByteArray} {l : List (Nat × ByteArray)} {N : Nat} (h : RD w P v su l) (hN : su.length = N) (z : Int) (hl : l.length ≤ 1000000) (hs : su.length ≤ 1000000) : Calls Try.prog 14 #[v, .int .i64 z] w (GPost w (getS (setsP l su) z) (getE N z)) := by
  subst hN
  exact rget_all h z hl hs
theorem rput_at {w : World} {P : Nat → Prop} {v : Value} {su : List ByteArray} {l : List (Nat × ByteArray)} {N : Nat} (h : RD w P v su l) (hN : su.length = N) (z : Int) (s : ByteArray) (hl : l.length ≤ 1000000) (hsu : su.length ≤ 1000000) : Calls Try.prog 11 #[v, .int .i64 z, .string s] w (RPostE P w su (putL N l z s) (putE N z s)) := by
  subst hN
  exact rput_any h z s hl hsu
set_option maxHeartbeats 2000000 in
set_option maxRecDepth 100000 in
theorem blockPlays_walk (z : Int) (A : Option Addr) (n c : Nat) (l : List OpT) (W : World) (R : Ops W W.heap.size A n l) (hn : n ≤ maxLen) :
    Calls Try.prog 3 #[.int .i64 z, .slice A n c] W (Gives (.bool true) W) := by
  have H := Lib.hid R
  clear R
  by_cases h64 : 64 < z ∧ z ≤ 16384
  · obtain ⟨h1, h2⟩ := h64
    go_enter Try.func3, Try.ntmps3
    go_wp2_with fail
    refine (awake_any W).mono ?_
    rintro e w9 ⟨rfl, hb9⟩
    go_wp2_with fail
    go_ret
    exact ⟨rfl, hb9⟩
  by_cases hbad : z < 4 ∨ 16384 < z
  · have hnew := new_no z hbad W
    have hrnew := rnew_no z hbad W
    have HN := Lib.hid (And.intro hnew hrnew)
    clear hnew hrnew
    rcases hbad with h4 | h4
    · have h64z : ¬ (64 : Int) < z := by omega
      clear h64
      go_enter Try.func3, Try.ntmps3
      go_wp2_with fail
      refine HN.out.1.mono ?_
      rintro e w1 ⟨rfl, rfl⟩
      go_wp2_with fail
      refine HN.out.2.mono ?_
      rintro e w2 ⟨v, P, rfl, hR, hP, hB⟩
      obtain ⟨A1, c1, A2, c2, rfl⟩ := hR.form
      go_wp2_with fail
      refine (awake_any _).mono ?_
      rintro e w9 ⟨rfl, hb9⟩
      go_wp2_with fail
      go_ret
      exact ⟨rfl, below_then (hB.alloc hB.size _) hb9⟩
    · have h64z : (64 : Int) < z := by omega
      have h64y : ¬ z ≤ 16384 := by omega
      clear h64
      go_enter Try.func3, Try.ntmps3
      go_wp2_with fail
      refine HN.out.1.mono ?_
      rintro e w1 ⟨rfl, rfl⟩
      go_wp2_with fail
      refine HN.out.2.mono ?_
      rintro e w2 ⟨v, P, rfl, hR, hP, hB⟩
      obtain ⟨A1, c1, A2, c2, rfl⟩ := hR.form
      go_wp2_with fail
      refine (awake_any _).mono ?_
      rintro e w9 ⟨rfl, hb9⟩
      go_wp2_with fail
      go_ret
      exact ⟨rfl, below_then (hB.alloc hB.size _) hb9⟩
  · obtain ⟨N, rfl⟩ : ∃ N : Nat, z = N := ⟨z.toNat, by omega⟩
    have h4 : 4 ≤ N := by omega
    have hN : N ≤ 64 := by omega
    have h64z : ¬ (64 : Int) < (N : Int) := by omega
    clear h64 hbad
    go_enter Try.func3, Try.ntmps3
    go_wp2_with fail
    refine (a_new N h4 (by omega) W).mono ?_
    rintro e w1 ⟨d, F, rfl, hD, hF, hb1⟩
    go_wp2_with fail
    refine (rnew_any N h4 (by omega) w1).mono ?_
    rintro e w2 ⟨v, P, rfl, hR, hP, hb2⟩
    obtain ⟨A1, c1, A2, c2, rfl⟩ := hR.form
    go_wp2_with fail
    obtain ⟨tq, htq⟩ : ∃ tq, tq = w2.heap.size := ⟨_, rfl⟩
    obtain ⟨W0, hW0⟩ : ∃ W0, W0 = w2.alloc (.cells #[.slice A1 (none_ N).length c1, .slice A2 0 c2] 31) := ⟨_, rfl⟩
    have hBa : Below w2.heap.size w2 W0 := by rw [hW0]; exact (Below.refl _ w2).alloc (Nat.le_refl _) _
    have hrow : Row W0 tq 31 [.slice A1 (none_ N).length c1, .slice A2 0 c2] := by rw [hW0, htq]; exact Row.new w2 31 _
    have h0 : PlayS W W0 N d tq F P (.slice A1 (none_ N).length c1) (.slice A2 0 c2) (none_ N) [] (none_ N) [] := by
      have hs1 := hb1.size
      have hs2 := hb2.size
      have hPge : ∀ x, P x → w1.heap.size ≤ x := fun x hx => (hP x hx).elim False.elim id
      exact ⟨(hD.below hb2).below hBa, hR.below hBa, hrow, fun x hx hp => by have := hD.lt x hx; have := hPge x hp; omega, fun hf => by have := hD.lt _ hf; omega, fun hp => by have := hR.lt _ hp; omega, fun x hx => hF x hx, by omega, below_then (below_then hb1 hb2) hBa⟩
    rw [← htq, ← hW0]
    have H0 := Lib.hid h0
    clear hBa hrow h0 hD hF hb1 hR hP hb2 hW0 htq
    go_loopw [9] (fun i wr => ∃ (k : Nat) (F P : Nat → Prop) (a b : Value) (su : List ByteArray) (ll : List (Nat × ByteArray)), i = .int .i64 (k : Int) ∧ k ≤ n ∧ k ≤ 100 ∧ PlayS W wr N d tq F P a b su ll su ll ∧ ll.length ≤ k) (fun i _ => n - (intOf i).toNat)
    case atStart => exact ⟨0, F, P, _, _, _, _, rfl, Nat.zero_le _, Nat.zero_le _, H0.out, Nat.le_refl _⟩
    case round =>
      clear H0 F P
      obtain ⟨k, F, P, a, b, su, ll, rfl, hk, hk1, hS, hll⟩ := hrel
      obtain ⟨Aq, cq, Bq, dq, rfl, rfl⟩ := hS.rd.shape
      have hsl : su.length = N := hS.disk.len
      have t0 := hS.row.cell (j := 0) rfl
      have t1 := hS.row.cell (j := 1) rfl
      have tl := hS.row.lt
      have tz0 := hS.row.frozen 0
      have tz1 := hS.row.frozen 1
      by_cases hlt : k < n ∧ k < 100
      · obtain ⟨hkn, hk100⟩ := hlt
        have hltz : (k : Int) < (n : Int) := by omega
        have hltz2 : (k : Int) < 100 := by omega
        obtain ⟨ad, o, hA, hlk, hgo, hbk, o0, o1, o2, o3⟩ := (H.out.below hS.below).at_ hkn
        subst hA
        have hbk' : (ad.add (k * 4)).block < wr.heap.size := by rw [block_of_add]; exact Nat.lt_of_lt_of_le hbk hS.below.size
        have hadl : ad.block < wr.heap.size := Nat.lt_of_lt_of_le hbk hS.below.size
        have HX := Lib.hid (And.intro hS (And.intro hll (And.intro hgo (And.intro hkn hk100))))
        -- ROUND
        obtain ⟨wa, hwa⟩ : ∃ wa, wa = wr.alloc (.cells #[.int .i64 o.kind, .int .i64 o.a, .int .i64 o.b, .string o.s] 35) := ⟨_, rfl⟩
        have hBa : Below wr.heap.size wr wa := by rw [hwa]; exact (Below.refl _ wr).alloc (Nat.le_refl _) _
        have hro : Row wa wr.heap.size 35 [.int .i64 o.kind, .int .i64 o.a, .int .i64 o.b, .string o.s] := by rw [hwa]; exact Row.new wr 35 _
        have hSa := hS.step hBa
        have t0a := hSa.row.cell (j := 0) rfl
        have t1a := hSa.row.cell (j := 1) rfl
        have tla := hSa.row.lt
        have tz0a := hSa.row.frozen 0
        have tz1a := hSa.row.frozen 1
        have p1 := hro.cell (j := 1) rfl
        have p2 := hro.cell (j := 2) rfl
        have p3 := hro.cell (j := 3) rfl
        have pl := hro.lt
        have hsz : o.s.size ≤ 9223372036854775807 := by have := hgo.2.2; simp only [maxLen] at this; omega
        have hpar := hS.disk.parts
        have hsmall := hS.disk.small
        have HSa := Lib.hid (And.intro hSa (And.intro hwa (And.intro hBa hro)))
        have HPA := Lib.hid (And.intro hpar (And.intro hsmall hsl))
        have hlen : ll.length ≤ 1000000 := by omega
        have hsul : su.length ≤ 1000000 := by omega
        clear hS hll hgo hlk hbk hSa hwa hBa hro hpar hsmall hsl
        have HWR := Lib.hid HSa.out.2.1.symm
        by_cases hk1 : o.kind = 1
        · rw [hk1] at o0 HWR
          go_wp2_with fail
          rw [HWR.out]
          refine (rput_at HSa.out.1.rd HPA.out.2.2 o.a o.s hlen hsul).mono ?_
          rintro e w1 ⟨v1, P1, rfl, hR1, hP1, hb1⟩
          obtain ⟨A5, c5, B5, d5, rfl⟩ := hR1.form
          have hS1 := HSa.out.1.step hb1
          have hbs := HSa.out.1.beside hP1
          have t0b := hS1.row.cell (j := 0) rfl
          have t1b := hS1.row.cell (j := 1) rfl
          have tlb := hS1.row.lt
          have tz0b := hS1.row.frozen 0
          have tz1b := hS1.row.frozen 1
          have HR1 := Lib.hid (And.intro hS1 (And.intro hR1 (And.intro hbs hb1)))
          have hro1 := HSa.out.2.2.2.keep (hb1.block _ pl)
          have p1b := hro1.cell (j := 1) rfl
          have p3b := hro1.cell (j := 3) rfl
          have plb := hro1.lt
          have hpl := putL_len N ll o.a o.s
          have HPL := Lib.hid (And.intro hpl hro1)
          clear hS1 hR1 hbs hb1 hpl hro1
          obtain ⟨pe, hpe⟩ : ∃ pe, putE N o.a o.s = pe := ⟨_, rfl⟩
          rw [hpe]
          have HPE := Lib.hid hpe
          clear hpe
          go_wp2_with fail
          obtain ⟨wb, hwb⟩ : ∃ wb, wb = w1.alloc (.cells #[.slice A5 su.length c5, .slice B5 (putL N ll o.a o.s).length d5] 31) := ⟨_, rfl⟩
          rw [← hwb]
          have hBb : Below w1.heap.size w1 wb := by rw [hwb]; exact (Below.refl _ w1).alloc (Nat.le_refl _) _
          have hrb : Row wb w1.heap.size 31 [.slice A5 su.length c5, .slice B5 (putL N ll o.a o.s).length d5] := by rw [hwb]; exact Row.new w1 31 _
          have hSb := HR1.out.1.step hBb
          have hRb := HR1.out.2.1.below hBb
          have HSb := Lib.hid (And.intro hSb (And.intro hRb hrb))
          clear hBb hwb hrb hSb hRb
          refine (a_put_any HSb.out.1.disk o.a o.s hsz hlen).mono ?_
          rintro e w3 ⟨rfl, F3, hD3, hT3⟩
          rw [HPE.out]
          have hS3 := HSb.out.1.turn hT3 hD3
          have hnf : ¬ F w1.heap.size := fun hf => by have := HR1.out.1.disk.lt _ hf; omega
          have hr3 := HSb.out.2.2.keep (hT3.block _ HSb.out.2.2.lt hnf)
          have hR3 := HSb.out.2.1.keep (w' := w3) (fun x hx => hT3.block x (HSb.out.2.1.lt x hx) (fun hf => HR1.out.2.2.1.1 x hf hx)) hT3.size
          have hfp3 : ∀ x, F3 x → ¬ P1 x := fun x hx hp => (hT3.foot x hx).elim (fun hf => HR1.out.2.2.1.1 x hf hp) (fun hs => by have := HSb.out.2.1.lt x hp; omega)
          have hset := hS3.set hR3 hfp3 HR1.out.2.2.1.2
          have t0c := hS3.row.cell (j := 0) rfl
          have t1c := hS3.row.cell (j := 1) rfl
          have tlc := hS3.row.lt
          have tz0c := hS3.row.frozen 0
          have tz1c := hS3.row.frozen 1
          have s0 := hr3.cell (j := 0) rfl
          have s1 := hr3.cell (j := 1) rfl
          have sl := hr3.lt
          have u1 := hset.row.cell (j := 1) rfl
          have ul := hset.row.lt
          have HS := Lib.hid hset
          have HLE := Lib.hid (show (putL N ll o.a o.s).length ≤ k + 1 by have := HPL.out.1; have := HX.out.2.1; omega)
          clear hS3 hD3 hT3 hr3 hR3 hfp3 hset hnf
          generalize putL N ll o.a o.s = ll' at *
          go_wp2_with fail
          go_quiet (first | (go_at_call 19; exact Calls.quiet_of (a_loose (HS.out.disk.drewN _))) | (go_at_call 20; exact Calls.quiet_of (a_blocks (HS.out.disk.drewN _))))
          go_wp2_with fail
          go_roundw
          case rel => exact ⟨k + 1, _, _, _, _, _, _, by go_num, by have := HX.out.2.2.2.1; omega, by have := HX.out.2.2.2.2; omega, HS.out.step (below_drewN (Below.refl _ _) _), HLE.out⟩
          case measure => have := HX.out.2.2.2.1; have := HX.out.2.2.2.2; simp [intOf]; omega
        · have hn1 : ¬ o.kind = 1 := hk1
          clear hk1
          by_cases hk2 : o.kind = 2
          · rw [hk2] at o0 HWR
            go_wp2_with fail
            rw [HWR.out]
            refine (a_get_any HSa.out.1.disk o.a).mono ?_
            rintro e w1 ⟨rfl, q, rfl⟩
            have HGE := Lib.hid (rget_at (w := wa.drewN q) (HSa.out.1.rd.keep (fun _ _ => rfl) (Nat.le_refl _)) HPA.out.2.2 o.a hlen hsul)
            generalize getS (setsP ll su) o.a = gs at *
            generalize getE N o.a = ge at *
            go_wp2_with fail
            refine HGE.out.mono ?_
            rintro e w2 ⟨rfl, hb2⟩
            have hS2 := (HSa.out.1.step (below_drewN (Below.refl _ _) q)).step hb2
            have t0b := hS2.row.cell (j := 0) rfl
            have t1b := hS2.row.cell (j := 1) rfl
            have tlb := hS2.row.lt
            have tz0b := hS2.row.frozen 0
            have tz1b := hS2.row.frozen 1
            have HS := Lib.hid hS2
            have HLE := Lib.hid (show ll.length ≤ k + 1 by have := HX.out.2.1; omega)
            clear hS2 hb2 HGE
            go_wp2_with fail
            go_quiet (first | (go_at_call 19; exact Calls.quiet_of (a_loose (HS.out.disk.drewN _))) | (go_at_call 20; exact Calls.quiet_of (a_blocks (HS.out.disk.drewN _))))
            go_wp2_with fail
            go_roundw
            case rel => exact ⟨k + 1, _, _, _, _, _, _, by go_num, by have := HX.out.2.2.2.1; omega, by have := HX.out.2.2.2.2; omega, HS.out.step (below_drewN (Below.refl _ _) _), HLE.out⟩
            case measure => have := HX.out.2.2.2.1; have := HX.out.2.2.2.2; simp [intOf]; omega
          · have hn2 : ¬ o.kind = 2 := hk2
            clear hk2
            by_cases hk3 : o.kind = 3
            · rw [hk3] at o0 HWR
              go_wp2_with fail
              rw [HWR.out]
              refine (rsync_any HSa.out.1.rd hlen hsul (fun p hp => by rw [HPA.out.2.2]; exact (HPA.out.1 p hp).1)).mono ?_
              rintro e w1 ⟨v1, P1, rfl, hR1, hP1, hb1⟩
              obtain ⟨A5, c5, B5, d5, rfl⟩ := hR1.form
              have hS1 := HSa.out.1.step hb1
              obtain ⟨hfp1, hpt1⟩ := HSa.out.1.beside hP1
              have t0b := hS1.row.cell (j := 0) rfl
              have t1b := hS1.row.cell (j := 1) rfl
              have tlb := hS1.row.lt
              have tz0b := hS1.row.frozen 0
              have tz1b := hS1.row.frozen 1
              have HS1 := Lib.hid (And.intro hS1 (hS1.set hR1 hfp1 hpt1))
              obtain ⟨X, hX⟩ : ∃ X, setsP ll su = X := ⟨_, rfl⟩
              rw [hX] at HS1
              rw [hX]
              have HSX := Lib.hid hX
              clear hS1 hR1 hP1 hb1 hfp1 hpt1 hX
              go_wp2_with fail
              refine (a_sync HS1.out.2.disk hlen).mono ?_
              rintro e w3 ⟨rfl, hD3, hT3⟩
              rw [HSX.out] at hD3
              have hS3 := HS1.out.2.turn hT3 hD3
              have t0c := hS3.row.cell (j := 0) rfl
              have t1c := hS3.row.cell (j := 1) rfl
              have tlc := hS3.row.lt
              have tz0c := hS3.row.frozen 0
              have tz1c := hS3.row.frozen 1
              have HS := Lib.hid hS3
              have HLE := Lib.hid (show ([] : List (Nat × ByteArray)).length ≤ k + 1 by simp)
              clear hS3 hD3 hT3
              go_wp2_with fail
              go_quiet (first | (go_at_call 19; exact Calls.quiet_of (a_loose (HS.out.disk.drewN _))) | (go_at_call 20; exact Calls.quiet_of (a_blocks (HS.out.disk.drewN _))))
              go_wp2_with fail
              go_roundw
              case rel => exact ⟨k + 1, _, _, _, _, _, _, by go_num, by have := HX.out.2.2.2.1; omega, by have := HX.out.2.2.2.2; omega, HS.out.step (below_drewN (Below.refl _ _) _), HLE.out⟩
              case measure => have := HX.out.2.2.2.1; have := HX.out.2.2.2.2; simp [intOf]; omega
            · have hn3 : ¬ o.kind = 3 := hk3
              clear hk3
              by_cases hk4 : o.kind = 4
              · rw [hk4] at o0 HWR
                go_wp2_with fail
                rw [HWR.out]
                refine (rfail_any HSa.out.1.rd hlen hsul (fun p hp => by rw [HPA.out.2.2]; exact HPA.out.1 p hp) HPA.out.2.1 o.a o.b HX.out.2.2.1.1.1 HX.out.2.2.1.1.2 HX.out.2.2.1.2.1.1 HX.out.2.2.1.2.1.2).mono ?_
                rintro e w1 ⟨v1, P1, rfl, hR1, hP1, hb1⟩
                obtain ⟨A5, c5, B5, d5, rfl⟩ := hR1.form
                have hS1 := HSa.out.1.step hb1
                obtain ⟨hfp1, hpt1⟩ := HSa.out.1.beside hP1
                have t0b := hS1.row.cell (j := 0) rfl
                have t1b := hS1.row.cell (j := 1) rfl
                have tlb := hS1.row.lt
                have tz0b := hS1.row.frozen 0
                have tz1b := hS1.row.frozen 1
                have hro1 := HSa.out.2.2.2.keep (hb1.block _ pl)
                have hset := hS1.set hR1 hfp1 hpt1
                obtain ⟨X, hX⟩ : ∃ X, failP ll su o.a o.b = X := ⟨_, rfl⟩
                rw [hX] at hset
                rw [hX]
                have hne : wr.heap.size ≠ tq := fun e => by have h7 := HX.out.1.row.lt; omega
                have hro2 : Row ((w1.setCell ⟨tq, 0, none⟩ (.slice A5 X.length c5)).setCell ⟨tq, 1, none⟩ (.slice B5 0 d5)) wr.heap.size 35 _ := (hro1.keep (heap_set_ne w1 ⟨tq, 0, none⟩ (.slice A5 X.length c5) hne)).keep (heap_set_ne _ ⟨tq, 1, none⟩ (.slice B5 0 d5) hne)
                have p1b := hro1.cell (j := 1) rfl
                have p2b := hro1.cell (j := 2) rfl
                have plb := hro1.lt
                have HS1 := Lib.hid (And.intro hS1 (And.intro hset (And.intro hro1 hne)))
                have HSX := Lib.hid hX
                clear hS1 hR1 hP1 hb1 hfp1 hpt1 hset hro1 hro2 hX hne
                go_wp2_with fail
                refine (a_fail HS1.out.2.1.disk hlen o.a o.b HX.out.2.2.1.1.1 HX.out.2.2.1.1.2 HX.out.2.2.1.2.1.1 HX.out.2.2.1.2.1.2).mono ?_
                rintro e w3 ⟨rfl, hD3, hT3⟩
                rw [HSX.out] at hD3
                have hS3 := HS1.out.2.1.turn hT3 hD3
                have t0c := hS3.row.cell (j := 0) rfl
                have t1c := hS3.row.cell (j := 1) rfl
                have tlc := hS3.row.lt
                have tz0c := hS3.row.frozen 0
                have tz1c := hS3.row.frozen 1
                have HS := Lib.hid hS3
                have HLE := Lib.hid (show ([] : List (Nat × ByteArray)).length ≤ k + 1 by simp)
                clear hS3 hD3 hT3
                go_wp2_with fail
                go_quiet (first | (go_at_call 19; exact Calls.quiet_of (a_loose (HS.out.disk.drewN _))) | (go_at_call 20; exact Calls.quiet_of (a_blocks (HS.out.disk.drewN _))))
                go_wp2_with fail
                go_roundw
                case rel => exact ⟨k + 1, _, _, _, _, _, _, by go_num, by have := HX.out.2.2.2.1; omega, by have := HX.out.2.2.2.2; omega, HS.out.step (below_drewN (Below.refl _ _) _), HLE.out⟩
                case measure => have := HX.out.2.2.2.1; have := HX.out.2.2.2.2; simp [intOf]; omega
              · have hn4 : ¬ o.kind = 4 := hk4
                clear hk4
                go_wp2_with fail
                rw [HWR.out]
                have HS := Lib.hid HSa.out.1
                have HLE := Lib.hid (show ll.length ≤ k + 1 by have := HX.out.2.1; omega)
                go_quiet (first | (go_at_call 19; exact Calls.quiet_of (a_loose (HS.out.disk.drewN _))) | (go_at_call 20; exact Calls.quiet_of (a_blocks (HS.out.disk.drewN _))))
                go_wp2_with fail
                go_roundw
                case rel => exact ⟨k + 1, _, _, _, _, _, _, by go_num, by have := HX.out.2.2.2.1; omega, by have := HX.out.2.2.2.2; omega, HS.out.step (below_drewN (Below.refl _ _) _), HLE.out⟩
                case measure => have := HX.out.2.2.2.1; have := HX.out.2.2.2.2; simp [intOf]; omega
      · by_cases hkn : k < n
        · have hltz : (k : Int) < (n : Int) := by omega
          have hltz2 : ¬ (k : Int) < 100 := by omega
          clear hlt
          have HX := Lib.hid hS
          have hN64 : N ≤ 64 := hN
          have HSL := Lib.hid hsl
          have hlen : ll.length ≤ 1000000 := by omega
          have hsul : su.length ≤ 1000000 := by omega
          clear hS hsl hll hk hk1
          go_wp2_with fail
          go_loopw [17] (fun i wx => ∃ j : Nat, i = .int .i64 (j : Int) ∧ j ≤ N ∧ PlayS W wx N d tq F P (.slice Aq su.length cq) (.slice Bq ll.length dq) su ll su ll) (fun i _ => N - (intOf i).toNat)
          case atStart => exact ⟨0, rfl, Nat.zero_le _, HX.out⟩
          case round =>
            clear t0 t1 tl tz0 tz1
            obtain ⟨j, rfl, hj, hS⟩ := hrel
            by_cases hjN : j < N
            · have hjz : (j : Int) < (N : Int) := by omega
              have t0 := hS.row.cell (j := 0) rfl
              have t1 := hS.row.cell (j := 1) rfl
              have tl := hS.row.lt
              have HS := Lib.hid hS
              clear hS
              go_wp2_with fail
              refine (a_get HS.out.disk j hjN).mono ?_
              rintro e w1 ⟨rfl, q, rfl⟩
              have hge := rget_any (w := wr.drewN q) (HS.out.rd.keep (fun _ _ => rfl) (Nat.le_refl _)) j (by rw [HSL.out]; exact hjN) hlen hsul
              have HGE := Lib.hid hge
              clear hge
              generalize (setsP ll su).getD j ⟨#[]⟩ = gs at *
              go_wp2_with fail
              refine HGE.out.mono ?_
              rintro e w2 ⟨rfl, hb2⟩
              have hS2 := (HS.out.step (below_drewN (Below.refl _ _) q)).step hb2
              have HS2 := Lib.hid hS2
              clear hS2 hb2 HGE
              go_wp2_with fail
              go_roundw
              case rel => exact ⟨j + 1, by go_num, by omega, HS2.out⟩
              case measure => simp [intOf]; omega
            · have hjz : ¬ (j : Int) < (N : Int) := by omega
              have HS := Lib.hid hS
              clear hS
              go_wp2_with fail
              refine (awake_any _).mono ?_
              rintro e w8 ⟨rfl, hb8⟩
              go_wp2_with fail
              go_ret
              exact ⟨rfl, below_then HS.out.below hb8⟩
        · have hltz : ¬ (k : Int) < (n : Int) := by omega
          clear hlt
          have HX := Lib.hid hS
          have hN64 : N ≤ 64 := hN
          have HSL := Lib.hid hsl
          have hlen : ll.length ≤ 1000000 := by omega
          have hsul : su.length ≤ 1000000 := by omega
          clear hS hsl hll hk hk1
          go_wp2_with fail
          go_loopw [17] (fun i wx => ∃ j : Nat, i = .int .i64 (j : Int) ∧ j ≤ N ∧ PlayS W wx N d tq F P (.slice Aq su.length cq) (.slice Bq ll.length dq) su ll su ll) (fun i _ => N - (intOf i).toNat)
          case atStart => exact ⟨0, rfl, Nat.zero_le _, HX.out⟩
          case round =>
            clear t0 t1 tl tz0 tz1
            obtain ⟨j, rfl, hj, hS⟩ := hrel
            by_cases hjN : j < N
            · have hjz : (j : Int) < (N : Int) := by omega
              have t0 := hS.row.cell (j := 0) rfl
              have t1 := hS.row.cell (j := 1) rfl
              have tl := hS.row.lt
              have HS := Lib.hid hS
              clear hS
              go_wp2_with fail
              refine (a_get HS.out.disk j hjN).mono ?_
              rintro e w1 ⟨rfl, q, rfl⟩
              have hge := rget_any (w := wr.drewN q) (HS.out.rd.keep (fun _ _ => rfl) (Nat.le_refl _)) j (by rw [HSL.out]; exact hjN) hlen hsul
              have HGE := Lib.hid hge
              clear hge
              generalize (setsP ll su).getD j ⟨#[]⟩ = gs at *
              go_wp2_with fail
              refine HGE.out.mono ?_
              rintro e w2 ⟨rfl, hb2⟩
              have hS2 := (HS.out.step (below_drewN (Below.refl _ _) q)).step hb2
              have HS2 := Lib.hid hS2
              clear hS2 hb2 HGE
              go_wp2_with fail
              go_roundw
              case rel => exact ⟨j + 1, by go_num, by omega, HS2.out⟩
              case measure => simp [intOf]; omega
            · have hjz : ¬ (j : Int) < (N : Int) := by omega
              have HS := Lib.hid hS
              clear hS
              go_wp2_with fail
              refine (awake_any _).mono ?_
              rintro e w8 ⟨rfl, hb8⟩
              go_wp2_with fail
              go_ret
              exact ⟨rfl, below_then HS.out.below hb8⟩
end Go.Proofs.Ytebcodbpgleoiaa
