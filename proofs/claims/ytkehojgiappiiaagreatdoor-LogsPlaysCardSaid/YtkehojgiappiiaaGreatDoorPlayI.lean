/- LogsPlays: its walk. Conditions: the calls read as they came; Go's tables lie below. -/
import Derived.Test.YtkehojgiappiiaaGreatDoorPlayFH
set_option linter.unusedVariables false
set_option linter.unusedSimpArgs false
set_option maxRecDepth 100000
namespace Go.Proofs.YtkehojgiappiiaaGreatDoor
open Go Go.RowKit
/-- A call in memory. -/
structure OpAt (w : World) (B : Nat) (a5 : Addr) (kd x y : Int) (tx : List UInt8) (A : Option Addr) (n c : Nat) (rs : List (List UInt8)) : Prop where
  c0 : w.cell? a5 = some (.int .i64 kd)
  c1 : w.cell? ⟨a5.block, a5.off + 1, none⟩ = some (.int .i64 x)
  c2 : w.cell? ⟨a5.block, a5.off + 2, none⟩ = some (.int .i64 y)
  c3 : w.cell? ⟨a5.block, a5.off + 3, none⟩ = some (.string ⟨tx.toArray⟩)
  c4 : w.cell? ⟨a5.block, a5.off + 4, none⟩ = some (.slice A n c)
  lt : a5.block < B
  rd : Reads w B 1 A n (strL rs)
  hn : n ≤ maxLen
  hc : n ≤ c
  hm : c ≤ maxLen
  hz : A = none → c = 0
  tl : tx.length ≤ maxLen
  bx : -9223372036854775808 ≤ x ∧ x ≤ 9223372036854775807
  by_ : -9223372036854775808 ≤ y ∧ y ≤ 9223372036854775807
theorem OpAt.below {w w' : World} {B : Nat} {a5 : Addr} {kd x y : Int} {tx : List UInt8} {A : Option Addr} {n c : Nat} {rs : List (List UInt8)} (h : OpAt w B a5 kd x y tx A n c rs) (hb : Below B w w') : OpAt w' B a5 kd x y tx A n c rs :=
  ⟨(hb.cell h.lt).trans h.c0, (hb.cell (p := ⟨a5.block, a5.off + 1, none⟩) h.lt).trans h.c1, (hb.cell (p := ⟨a5.block, a5.off + 2, none⟩) h.lt).trans h.c2, (hb.cell (p := ⟨a5.block, a5.off + 3, none⟩) h.lt).trans h.c3, (hb.cell (p := ⟨a5.block, a5.off + 4, none⟩) h.lt).trans h.c4, h.lt, h.rd.below hb, h.hn, h.hc, h.hm, h.hz, h.tl, h.bx, h.by_⟩
def OpsAt (w : World) (B : Nat) (A : Option Addr) (n : Nat) : Prop := ∀ i, i < n → ∃ ad kd x y tx A1 n1 c1 rs, A = some ad ∧ OpAt w B (ad.add (i * 5)) kd x y tx A1 n1 c1 rs
theorem PSt.under {w0 V V' : World} {B N xb : Nat} {F G : Nat → Prop} {p d t st : Nat} {R : List (List UInt8)} {sr : Nat} {su : List ByteArray} {l : List (Nat × ByteArray)} {A : Option Addr} {n c k : Nat} (h : PSt w0 B N xb V F G p d t st R sr su l A n c k) (hb : Below V.heap.size V V') : PSt w0 B N xb V' F G p d t st R sr su l A n c k :=
  ⟨h.log.below hb, h.by_.below hb, h.ll, h.tk, h.below.trans (hb.mono h.log.tab.le)⟩
theorem turnX1 (X : Nat) (V : World) (j : Nat) (u : Value) : Turn (fun b => b = X) V (fun b => b = X) (V.setCell ⟨X, j, none⟩ u) :=
  ⟨rfl, rfl, rfl, by simp, fun b _ hb => heap_set_ne _ _ _ hb, fun b hb => .inl hb⟩
theorem LogF.atX {V V' : World} {B xb : Nat} {F G : Nat → Prop} {p d N t st : Nat} {R : List (List UInt8)} {sr : Nat} {su : List ByteArray} {l : List (Nat × ByteArray)} (h : LogF V B F G p d N t st R sr su l) (T : Turn (fun b => b = xb) V (fun b => b = xb) V') (hx : ¬ Un F G xb) (hB : B ≤ xb) : LogF V' B F G p d N t st R sr su l :=
  h.keep (fun b hb => T.block b (h.lt b hb) (fun e => hx (by have e : b = xb := e; rw [← e]; exact hb))) T.size (T.down (fun b e => by have e : b = xb := e; rw [e]; exact hB) h.tab.le)
theorem Beside.at_ {V V' : World} {Z : Nat → Prop} {B xb N sr q sr' q' n n' c c' : Nat} {A A' : Option Addr} {R R' : List (List UInt8)} (h : Beside V Z B xb N sr q A n c R) (T : Turn (fun b => b = xb) V (fun b => b = xb) V') (row : Row V' xb 25 [.int .i64 (N : Int), .int .i64 (sr' : Int), .int .i64 (q' : Int), .slice A' n' c']) (rd : Reads V V.heap.size 1 A' n' (strL R')) (out : ∀ ad, A' = some ad → 0 < n' → ¬ Z ad.block ∧ ad.block ≠ xb) (hn : n' ≤ maxLen) (hc : n' ≤ c') (hm : c' ≤ maxLen) (hz : A' = none → c' = 0) : Beside V' Z B xb N sr' q' A' n' c' R' :=
  ⟨row, h.xF, h.xB, reads_turnZ rd T (fun ad e h0 => (out ad e h0).2), out, hn, hc, hm, hz⟩
theorem Beside.less {V : World} {Z Z' : Nat → Prop} {B xb N sr q n c : Nat} {A : Option Addr} {R : List (List UInt8)} (h : Beside V Z B xb N sr q A n c R) (hZ : ∀ b, Z' b → Z b) : Beside V Z' B xb N sr q A n c R :=
  ⟨h.row, fun hf => h.xF (hZ _ hf), h.xB, h.rd, fun ad e h0 => ⟨fun hf => (h.out ad e h0).1 (hZ _ hf), (h.out ad e h0).2⟩, h.hn, h.hc, h.hm, h.hz⟩
theorem reads_take {w : World} {B n m : Nat} {A : Option Addr} {R : List (List UInt8)} (h : Reads w B 1 A n (strL R)) (hm : m ≤ n) : Reads w B 1 A m (strL (R.take m)) := by
  have hl := reads_len h
  refine ⟨by rw [strL_len, List.length_take]; omega, fun h0 => ?_⟩
  obtain ⟨ad, e, hb, hc⟩ := h.2 (by omega)
  refine ⟨ad, e, hb, fun j u hj => hc j u ?_⟩
  rw [← hj]
  have hj' := (List.getElem?_eq_some_iff.1 hj).1
  rw [strL_len, List.length_take] at hj'
  unfold strL
  rw [List.getElem?_map, List.getElem?_map, List.getElem?_take, if_pos (by omega)]
theorem few_cons (t r : List UInt8) (rs : List (List UInt8)) : few t (r :: rs) (r :: rs).length = min r.length 4096 + few t rs rs.length := by
  unfold few
  simp only [List.take_length, List.map_cons, List.sum_cons]
  omega
theorem few_facts (t : List UInt8) : ∀ rs : List (List UInt8), few t rs rs.length < 2048 → t.length ≤ 2048 ∧ (∀ r ∈ rs, r.length ≤ 2048) ∧ (encs rs).length ≤ few t rs rs.length + 14 * rs.length
  | [], h => by
    simp [few] at h
    exact ⟨by omega, fun r hr => by simp at hr, by simp [encs]⟩
  | r :: rs, h => by
    rw [few_cons] at h
    obtain ⟨h1, h2, h3⟩ := few_facts t rs (by omega)
    refine ⟨h1, fun r' hr' => ?_, ?_⟩
    · rcases List.mem_cons.1 hr' with e | h'
      · subst e
        omega
      · exact h2 r' h'
    · rw [few_cons, encs_cons, List.length_append, enc_len, List.length_cons]
      omega
theorem light_facts {t : List UInt8} {rs : List (List UInt8)} (h : lightL t rs = true) : t.length ≤ 2048 ∧ (∀ r ∈ rs, r.length ≤ 2048) ∧ (encs rs).length ≤ 3000 := by
  unfold lightL at h
  obtain ⟨h1, h2⟩ := of_decide_eq_true h
  rw [Nat.min_eq_left h1] at h2
  obtain ⟨a, b, c⟩ := few_facts t rs h2
  exact ⟨a, b, by omega⟩
theorem PSt.next {w0 V : World} {B N xb : Nat} {F G : Nat → Prop} {p d t st : Nat} {R : List (List UInt8)} {sr : Nat} {su : List ByteArray} {l : List (Nat × ByteArray)} {A : Option Addr} {n c k : Nat} (h : PSt w0 B N xb V F G p d t st R sr su l A n c k) : PSt w0 B N xb V F G p d t st R sr su l A n c (k + 1) :=
  ⟨h.log, h.by_, by have := h.ll; omega, by have := h.tk; omega, h.below⟩
theorem LogF.lower {w : World} {B B' : Nat} {F G : Nat → Prop} {p d N t st : Nat} {R : List (List UInt8)} {sr : Nat} {su : List ByteArray} {l : List (Nat × ByteArray)} (h : LogF w B F G p d N t st R sr su l) (hB : B' ≤ B) (hT : Tab w B') : LogF w B' F G p d N t st R sr su l := ⟨h.log, fun b hb => Nat.le_trans hB (h.far b hb), hT⟩
/-- Add of the statement, where it fits: a new list, whole. -/
theorem adds_fit (N t sr : Nat) (h4 : 4 ≤ N) (hN : N ≤ 4000) (R : List (List UInt8)) (A : Option Addr) (n c : Nat) (r : List UInt8) (w : World) (hR : Reads w w.heap.size 1 A n (strL R)) (hn : n ≤ maxLen) (hl : (encs R).length ≤ 128 * hB N t) (hr : r.length ≤ 32768) (hfit : (encs R).length + (r.length + 14) ≤ 128 * hB N t) (hc : n ≤ c) (hz : A = none → c = 0) :
    Calls Tryz.prog 7 #[stV N sr (t % 2) A n c, .string ⟨r.toArray⟩] w fun e w' => ∃ A' c', e = .returned (.tuple #[stV N sr (t % 2) A' (n + 1) c', .int .i64 0]) ∧ c' ≤ maxLen ∧ n + 1 ≤ maxLen ∧ n + 1 ≤ c' ∧ (A' = none → c' = 0) ∧ Reads w' w'.heap.size 1 A' (n + 1) (strL (R ++ [r])) ∧ (∀ ad, A' = some ad → w.heap.size ≤ ad.block ∧ ad.block < w'.heap.size) ∧ Below w.heap.size w w' := by
  have key : Calls Tryz.prog 7 #[stV N sr (t % 2) A n c, .string ⟨r.toArray⟩] w fun e w' => ∃ A' c', e = .returned (.tuple #[stV N sr (t % 2) A' (n + 1) c', .int .i64 0]) ∧ w'.ownsRow w.heap.size 9 1 (.slice A' (n + 1) c') (n + 1) (strL (R ++ [r])) ∧ Below w.heap.size w w' := by
    cases A with
    | some ad => exact adds_ok N t sr h4 hN R ad n c r w hR hn hl hr hfit
    | none =>
      have h0 : n = 0 := by
        rcases Nat.eq_zero_or_pos n with h | h
        · exact h
        · obtain ⟨ad, e, _⟩ := hR.2 h
          simp at e
      have hR0 : R = [] := List.eq_nil_of_length_eq_zero (by rw [← reads_len hR, h0])
      have hc0 := hz rfl
      subst h0 hR0 hc0
      exact adds_nil N t sr h4 hN r w hr (by simpa [encs] using hfit)
  refine key.mono ?_
  rintro e w' ⟨A', c', he, ho, hb⟩
  obtain ⟨h1, ⟨h2, h3⟩ | ⟨g, cap, cur, h2, hg, hc', hn', hcm, _, _⟩⟩ := id ho
  · omega
  · injection h2 with e1 e2 e3
    subst e1 e3
    exact ⟨_, _, he, hcm, by omega, hn', fun e => by simp at e, Reads.of_own ho, fun ad e => by injection e with e; subst e; exact ⟨hg, (Array.getElem?_eq_some_iff.1 hc').1⟩, hb⟩
set_option maxHeartbeats 8000000 in
set_option maxRecDepth 100000 in
theorem logsPlays_walk (z : Int) (A0 : Option Addr) (n0 c0 : Nat) (W : World) (hO : OpsAt W W.heap.size A0 n0) (hm0 : n0 ≤ maxLen) (hT : Tab W W.heap.size) (hP : Tabs W W.heap.size) :
    Calls Tryz.prog 3 #[.int .i64 z, .slice A0 n0 c0] W (Gives (.bool true) W) := by
  have haw := fun w (h : Tab w W.heap.size) => awake_any w h
  have hnm : (n0 : Int) ≤ 9223372036854775807 := by unfold maxLen at hm0; omega
  have h63 := i64_and63 z
  obtain ⟨N, hN⟩ : ∃ N : Nat, (N : Int) = 4 + z % 64 := ⟨(4 + z % 64).toNat, by omega⟩
  have h4 : 4 ≤ N := by omega
  have hN2 : N ≤ 67 := by omega
  have hz1 : 0 ≤ z % 64 := by omega
  have hz2 : z % 64 < 64 := by omega
  generalize z % 64 = z6 at *
  have hw4 : IntKind.i64.wrap (4 + z6) = (N : Int) := by rw [hN]; simp only [IntKind.wrap_i64]; omega
  clear hN hz1 hz2
  obtain ⟨W1, hW1⟩ : ∃ W1, W1 = W.alloc (.cells #[.int .i64 (N : Int), .int .i64 0, .int .i64 0, .slice none 0 0] 25) := ⟨_, rfl⟩
  have b1 : Below W.heap.size W W1 := by rw [hW1]; exact (Below.refl _ W).alloc (Nat.le_refl _) _
  have s1 : W1.heap.size = W.heap.size + 1 := by rw [hW1]; simp
  have r1 : Row W1 W.heap.size 25 [.int .i64 (N : Int), .int .i64 0, .int .i64 0, .slice none 0 0] := by rw [hW1]; exact Row.new W _ [.int .i64 (N : Int), .int .i64 0, .int .i64 0, .slice none 0 0]
  have hT1 : Tab W1 W1.heap.size := by
    have := hT.on b1
    exact ⟨this.t1, by omega, Nat.le_refl _⟩
  have hbg := begun_any N h4 (by omega) W1 hT1
  have x0 := r1.cell (j := 0) rfl
  have xl := r1.lt
  have HW := Lib.hid hW1.symm
  have H0 := Lib.hid (And.intro b1 (And.intro s1 (And.intro r1 (And.intro hT hP))))
  have HN := Lib.hid (And.intro h4 hN2)
  have HA := Lib.hid haw
  have HO := Lib.hid hO
  clear b1 s1 r1 hT hP hT1 h4 hN2 haw hO hm0 hW1
  go_enter Tryz.func3, Tryz.ntmps3
  go_wp2_with fail
  rw [HW.out]
  refine hbg.mono ?_
  intro e w1 hpost
  unfold BegunPost at hpost
  obtain ⟨p, d, F1, G1, st, su, rfl, hL1, hb1⟩ := hpost
  have hst : PSt W W.heap.size N W.heap.size w1 F1 G1 p d 0 st [] 0 su [] none 0 0 0 := by
    obtain ⟨b1, s1, r1, hT, hP⟩ := H0.out
    have hb : Below W.heap.size W w1 := b1.trans (hb1.mono (by omega))
    exact ⟨hL1.lower (by omega) (hT.on hb), ⟨r1.keep (hb1.block _ (by omega)), fun hf => by have := hL1.far _ hf; omega, Nat.le_refl _, Reads.none_, fun ad e => by simp at e, Nat.zero_le _, Nat.zero_le _, Nat.zero_le _, fun _ => rfl⟩, Nat.zero_le _, Nat.zero_le _, hb⟩
  have HST := Lib.hid hst
  clear hst hL1 hb1 x0 xl hbg HW
  go_wp2_with fail
  go_loopw [7, 9] (fun vl vi wr => ∃ (k p : Nat) (F G : Nat → Prop) (t st : Nat) (R : List (List UInt8)) (sr : Nat) (su : List ByteArray) (l : List (Nat × ByteArray)) (A : Option Addr) (n c : Nat), vi = .int .i64 (k : Int) ∧ k ≤ n0 ∧ k ≤ 60 ∧ vl = .pointer (some ⟨p, 0, none⟩) ∧ Hid (PSt W W.heap.size N W.heap.size wr F G p d t st R sr su l A n c k)) (fun _ vi _ => n0 - (intOf vi).toNat)
  case atStart => exact ⟨0, p, F1, G1, 0, st, [], 0, su, [], none, 0, 0, rfl, Nat.zero_le _, Nat.zero_le _, rfl, HST⟩
  case round =>
    clear HST
    obtain ⟨k, p, F, G, t, st, R, sr, su, l, A, n, c, rfl, hk, hk60, rfl, HT⟩ := hrel
    by_cases hend : k < n0 ∧ k < 60
    · obtain ⟨hlt, hlt2⟩ := hend
      have hltz : (k : Int) < (n0 : Int) := by omega
      have hltz2 : (k : Int) < 60 := by omega
      obtain ⟨ad, kd, x, y, tx, A1, n1, c1, rs, rfl, hop⟩ := HO.out k hlt
      have hopr := hop.below HT.out.below
      have hbs := HT.out.below.size
      obtain ⟨W2, hW2⟩ : ∃ W2, W2 = wr.alloc (.cells #[.int .i64 kd, .int .i64 x, .int .i64 y, .string ⟨tx.toArray⟩, .slice A1 n1 c1] 31) := ⟨_, rfl⟩
      have b2 : Below wr.heap.size wr W2 := by rw [hW2]; exact (Below.refl _ wr).alloc (Nat.le_refl _) _
      have r2 : Row W2 wr.heap.size 31 [.int .i64 kd, .int .i64 x, .int .i64 y, .string ⟨tx.toArray⟩, .slice A1 n1 c1] := by rw [hW2]; exact Row.new wr _ [.int .i64 kd, .int .i64 x, .int .i64 y, .string ⟨tx.toArray⟩, .slice A1 n1 c1]
      have hop2 := hopr.below (b2.mono hbs)
      have hlg := light_any kd x y tx rs A1 n1 c1 W2 (hop2.rd.more (Nat.le_trans hbs b2.size)) hop2.hn hop2.tl
      have y0 := hopr.c0
      have y1 := hopr.c1
      have y2 := hopr.c2
      have y3 := hopr.c3
      have y4 := hopr.c4
      have yl : (ad.add (k * 5)).block < wr.heap.size := Nat.lt_of_lt_of_le hopr.lt hbs
      have o0 := r2.cell (j := 0) rfl
      have o1 := r2.cell (j := 1) rfl
      have o2 := r2.cell (j := 2) rfl
      have o3 := r2.cell (j := 3) rfl
      have o4 := r2.cell (j := 4) rfl
      have ol := r2.lt
      have HW2 := Lib.hid hW2.symm
      have H2 := Lib.hid (And.intro (HT.out.under b2) (And.intro r2 (And.intro hop2 (show W.heap.size ≤ W2.heap.size from Nat.le_trans hbs b2.size))))
      clear hop hopr hW2 b2 r2 hop2 HT hbs
      go_wp2_with fail
      rw [HW2.out]
      refine hlg.mono ?_
      rintro e w3 ⟨rfl, hb3⟩
      have HS := Lib.hid (H2.out.1.under hb3)
      have r3 := H2.out.2.1.keep (hb3.block _ H2.out.2.1.lt)
      have o0 := r3.cell (j := 0) rfl
      have o1 := r3.cell (j := 1) rfl
      have o2 := r3.cell (j := 2) rfl
      have o3 := r3.cell (j := 3) rfl
      have o4 := r3.cell (j := 4) rfl
      have ol := r3.lt
      have HR := Lib.hid (And.intro r3 (H2.out.2.2.1.below (hb3.mono H2.out.2.2.2)))
      have HWB := Lib.hid H2.out.2.2.2
      clear r3 hb3 hlg y0 y1 y2 y3 y4 yl H2
      cases hlt : lightL tx rs with
      | false =>
        have haw := HA.out w3 HS.out.log.tab
        clear o0 o1 o2 o3 o4 ol
        go_wp2_with fail
        refine haw.mono ?_
        rintro e w4 ⟨rfl, hb4⟩
        go_wp2_with fail
        go_ret
        exact ⟨rfl, HS.out.below.trans hb4⟩
      | true =>
        have HLT := Lib.hid hlt
        clear hlt
        by_cases k1 : kd = 1
        · subst k1
          obtain ⟨hl1, hl2, hl3⟩ := light_facts HLT.out
          have hRl : (encs R).length ≤ 128 * hB N t := HS.out.log.log.ok.fit
          have v0 := HS.out.by_.row.cell (j := 0) rfl
          have v1 := HS.out.by_.row.cell (j := 1) rfl
          have v2 := HS.out.by_.row.cell (j := 2) rfl
          have v3 := HS.out.by_.row.cell (j := 3) rfl
          have vl := HS.out.by_.row.lt
          by_cases hfit : (encs R).length + (tx.length + 14) ≤ 128 * hB N t
          · have han := adds_fit N t sr HN.out.1 (by have := HN.out.2; omega) R A n c tx w3 HS.out.by_.rd HS.out.by_.hn hRl (by omega) hfit HS.out.by_.hc HS.out.by_.hz
            unfold stV at han
            obtain ⟨q, hq⟩ : ∃ q, q = t % 2 := ⟨_, rfl⟩
            rw [← hq] at han v2
            have HQ := Lib.hid (And.intro hq (And.intro hl1 hfit))
            clear hq hl1 hl2 hl3 hfit hRl
            go_wp2_with fail
            refine han.mono ?_
            rintro e w4 ⟨A8, c8, rfl, hn8, hm8, hc8, hz8, hR8, hf8, hb4⟩
            obtain ⟨w5, hw5⟩ : ∃ w5, w5 = w4.alloc (.cells #[.int .i64 (N : Int), .int .i64 (sr : Int), .int .i64 (q : Int), .slice A8 (n + 1) c8] 25) := ⟨_, rfl⟩
            have b45 : Below w4.heap.size w4 w5 := by rw [hw5]; exact (Below.refl _ w4).alloc (Nat.le_refl _) _
            have b5 : Below w3.heap.size w3 w5 := hb4.trans (b45.mono hb4.size)
            have r5 : Row w5 w4.heap.size 25 [.int .i64 (N : Int), .int .i64 (sr : Int), .int .i64 (q : Int), .slice A8 (n + 1) c8] := by rw [hw5]; exact Row.new w4 _ [.int .i64 (N : Int), .int .i64 (sr : Int), .int .i64 (q : Int), .slice A8 (n + 1) c8]
            have r3 := HR.out.1.keep (hb4.block _ HR.out.1.lt)
            have HS5 := Lib.hid (HS.out.under b5)
            have hR5 : Reads w5 w5.heap.size 1 A8 (n + 1) (strL (R ++ [tx])) := (hR8.below b45).more b45.size
            have han2 := logt_add HS5.out.log tx (by have := HQ.out.2.1; omega) HQ.out.2.2 (by have := HS.out.ll; omega)
            have hltF : ∀ b, Un F G b → b < w3.heap.size := HS.out.log.lt
            have hxl : W.heap.size < w3.heap.size := HS.out.by_.row.lt
            have H5 := Lib.hid (And.intro r5 (And.intro hR5 (And.intro hf8 (And.intro hltF (And.intro HQ.out.1 (And.intro hxl (And.intro hn8 (And.intro hm8 (And.intro hc8 (And.intro hz8 (And.intro b45.size hb4.size)))))))))))
            have o3 := r3.cell (j := 3) rfl
            have ol := r3.lt
            have HW5 := Lib.hid hw5.symm
            clear hw5 b45 b5 r5 r3 hR5 hltF hxl han hb4 v0 v1 v2 v3 vl o0 o1 o2 o4 hn8 hm8 hc8 hz8 hR8 hf8
            go_wp2_with fail
            rw [HW5.out]
            refine han2.mono ?_
            rintro e w6 ⟨rfl, F6, G6, l6, hL6, hl6, hT6⟩
            have HB6 := Lib.hid (And.intro (HS5.out.by_.turn hT6) (And.intro hL6 (HS5.out.below.trans (hT6.down HS5.out.log.far HS5.out.log.tab.le))))
            have r6 := H5.out.1.keep (hT6.block _ H5.out.1.lt (fun hf => by have := H5.out.2.2.2.1 _ hf; have := H5.out.2.2.2.2.2.2.2.2.2.2.2; omega))
            have hR6 := reads_turnZ H5.out.2.1 hT6 (fun ad e h0 hf => by have := H5.out.2.2.1 ad e; have := H5.out.2.2.2.1 _ hf; omega)
            have b0 := r6.cell (j := 0) rfl
            have b1 := r6.cell (j := 1) rfl
            have b2 := r6.cell (j := 2) rfl
            have b3 := r6.cell (j := 3) rfl
            have bl := r6.lt
            have a0 := HB6.out.1.row.cell (j := 0) rfl
            have a1 := HB6.out.1.row.cell (j := 1) rfl
            have a2 := HB6.out.1.row.cell (j := 2) rfl
            have a3 := HB6.out.1.row.cell (j := 3) rfl
            have f0 := HB6.out.1.row.frozen 0
            have f1 := HB6.out.1.row.frozen 1
            have f2 := HB6.out.1.row.frozen 2
            have f3 := HB6.out.1.row.frozen 3
            have al := HB6.out.1.row.lt
            have HV : Hid (PSt W W.heap.size N W.heap.size ((((w6.setCell ⟨W.heap.size, 0, none⟩ (.int .i64 (N : Int))).setCell ⟨W.heap.size, 1, none⟩ (.int .i64 (sr : Int))).setCell ⟨W.heap.size, 2, none⟩ (.int .i64 (q : Int))).setCell ⟨W.heap.size, 3, none⟩ (.slice A8 (n + 1) c8)) F6 G6 p d t st (R ++ [tx]) sr su l6 A8 (n + 1) c8 (k + 1)) := Lib.hid (by
              have T := (((turnX1 W.heap.size w6 0 (.int .i64 (N : Int))).trans (turnX1 W.heap.size _ 1 (.int .i64 (sr : Int)))).trans (turnX1 W.heap.size _ 2 (.int .i64 (q : Int)))).trans (turnX1 W.heap.size _ 3 (.slice A8 (n + 1) c8))
              obtain ⟨_, _, g1, g2, g3, g4, g5, g6, g7, g8, g9, g10⟩ := H5.out
              refine ⟨HB6.out.2.1.atX T HB6.out.1.xF HB6.out.1.xB, by rw [← g3]; exact HB6.out.1.at_ T ((((HB6.out.1.row.set 0 _).set 1 _).set 2 _).set 3 _) hR6 (fun ad e h0 => ⟨fun hf => (hT6.foot _ hf).elim (fun h1 => by have := g1 ad e; have := g2 _ h1; omega) (fun h1 => by have := g1 ad e; omega), by have := g1 ad e; omega⟩) g6 g7 (by omega) g8, by have := HS.out.ll; omega, by have := HS.out.tk; omega, HB6.out.2.2.trans (T.down (fun b e => by have e : b = W.heap.size := e; omega) HB6.out.2.1.tab.le)⟩)
            clear r6 hR6 hL6 hT6 han2
            obtain ⟨q, hq⟩ : ∃ q, q = t % 2 := ⟨_, rfl⟩
            have hrt := right_any (s0 := sr) (c := c8) HV.out.log HN.out.1 (by have := HN.out.2; omega) HV.out.by_.rd HV.out.by_.hn
            have v0 := HV.out.by_.row.cell (j := 0) rfl
            have v1 := HV.out.by_.row.cell (j := 1) rfl
            have v2 := HV.out.by_.row.cell (j := 2) rfl
            have v3 := HV.out.by_.row.cell (j := 3) rfl
            have vl := HV.out.by_.row.lt
            unfold stV at hrt
            rw [← hq] at hrt v2
            clear hq
            go_wp2_with fail
            refine hrt.mono ?_
            rintro e w9 ⟨rfl, hb9⟩
            have HZ := Lib.hid (HV.out.under hb9)
            clear v0 v1 v2 v3 vl hrt hb9
            go_wp2_with fail
            go_roundw
            case rel => exact ⟨k + 1, p, F6, G6, t, st, R ++ [tx], sr, su, l6, A8, n + 1, c8, by go_num, by omega, by omega, rfl, HZ⟩
            case measure => simp [intOf]; omega
          · have hfull : 128 * hB N t - (encs R).length < tx.length + 14 := by omega
            have han := adds_full N t sr HN.out.1 (by have := HN.out.2; omega) R A n c tx w3 HS.out.by_.rd HS.out.by_.hn hRl (by omega) hfull
            have hjE : joinE [tx] (128 * hB N t - (encs R).length) = 70 := joinE_full (fun r hr => by simp at hr; rw [hr]; omega) (by rw [encs_cons, List.length_append, enc_len]; omega)
            unfold stV at han
            obtain ⟨q, hq⟩ : ∃ q, q = t % 2 := ⟨_, rfl⟩
            rw [← hq] at han v2
            have HQ := Lib.hid (And.intro hq hjE)
            clear hq hl1 hl2 hl3 hfit hRl hfull hjE
            go_wp2_with fail
            refine han.mono ?_
            rintro e w4 ⟨rfl, hb4⟩
            obtain ⟨w5, hw5⟩ : ∃ w5, w5 = w4.alloc (.cells #[.int .i64 (N : Int), .int .i64 (sr : Int), .int .i64 (q : Int), .slice A n c] 25) := ⟨_, rfl⟩
            have b45 : Below w4.heap.size w4 w5 := by rw [hw5]; exact (Below.refl _ w4).alloc (Nat.le_refl _) _
            have b5 : Below w3.heap.size w3 w5 := hb4.trans (b45.mono hb4.size)
            have r5 : Row w5 w4.heap.size 25 [.int .i64 (N : Int), .int .i64 (sr : Int), .int .i64 (q : Int), .slice A n c] := by rw [hw5]; exact Row.new w4 _ [.int .i64 (N : Int), .int .i64 (sr : Int), .int .i64 (q : Int), .slice A n c]
            have r3 := HR.out.1.keep (hb4.block _ HR.out.1.lt)
            have HS5 := Lib.hid (HS.out.under b5)
            have han2 := add_no HS5.out.log.log tx 70 HQ.out.2 (by decide) HS5.out.log.tab.t1
            have H5 := Lib.hid r5
            have o3 := r3.cell (j := 3) rfl
            have ol := r3.lt
            have HW5 := Lib.hid hw5.symm
            clear hw5 b45 b5 r5 r3 han hb4 v0 v1 v2 v3 vl o0 o1 o2 o4
            go_wp2_with fail
            rw [HW5.out]
            refine han2.mono ?_
            rintro e w6 ⟨rfl, hb6⟩
            have HS6 := Lib.hid (HS5.out.under hb6)
            have r6 := H5.out.keep (hb6.block _ H5.out.lt)
            have b0 := r6.cell (j := 0) rfl
            have b1 := r6.cell (j := 1) rfl
            have b2 := r6.cell (j := 2) rfl
            have b3 := r6.cell (j := 3) rfl
            have bl := r6.lt
            have a0 := HS6.out.by_.row.cell (j := 0) rfl
            have a1 := HS6.out.by_.row.cell (j := 1) rfl
            have a2 := HS6.out.by_.row.cell (j := 2) rfl
            have a3 := HS6.out.by_.row.cell (j := 3) rfl
            have f0 := HS6.out.by_.row.frozen 0
            have f1 := HS6.out.by_.row.frozen 1
            have f2 := HS6.out.by_.row.frozen 2
            have f3 := HS6.out.by_.row.frozen 3
            have al := HS6.out.by_.row.lt
            have HV : Hid (PSt W W.heap.size N W.heap.size ((((w6.setCell ⟨W.heap.size, 0, none⟩ (.int .i64 (N : Int))).setCell ⟨W.heap.size, 1, none⟩ (.int .i64 (sr : Int))).setCell ⟨W.heap.size, 2, none⟩ (.int .i64 (q : Int))).setCell ⟨W.heap.size, 3, none⟩ (.slice A n c)) F G p d t st R sr su l A n c k) := Lib.hid (by
              have T := (((turnX1 W.heap.size w6 0 (.int .i64 (N : Int))).trans (turnX1 W.heap.size _ 1 (.int .i64 (sr : Int)))).trans (turnX1 W.heap.size _ 2 (.int .i64 (q : Int)))).trans (turnX1 W.heap.size _ 3 (.slice A n c))
              refine ⟨HS6.out.log.atX T HS6.out.by_.xF HS6.out.by_.xB, by rw [← HQ.out.1]; exact HS6.out.by_.at_ T ((((HS6.out.by_.row.set 0 _).set 1 _).set 2 _).set 3 _) HS6.out.by_.rd HS6.out.by_.out HS6.out.by_.hn HS6.out.by_.hc HS6.out.by_.hm HS6.out.by_.hz, HS6.out.ll, HS6.out.tk, HS6.out.below.trans (T.down (fun b e => by have e : b = W.heap.size := e; omega) HS6.out.log.tab.le)⟩)
            clear r6 hb6 han2
            obtain ⟨q, hq⟩ : ∃ q, q = t % 2 := ⟨_, rfl⟩
            have hrt := right_any (s0 := sr) (c := c) HV.out.log HN.out.1 (by have := HN.out.2; omega) HV.out.by_.rd HV.out.by_.hn
            have v0 := HV.out.by_.row.cell (j := 0) rfl
            have v1 := HV.out.by_.row.cell (j := 1) rfl
            have v2 := HV.out.by_.row.cell (j := 2) rfl
            have v3 := HV.out.by_.row.cell (j := 3) rfl
            have vl := HV.out.by_.row.lt
            unfold stV at hrt
            rw [← hq] at hrt v2
            clear hq
            go_wp2_with fail
            refine hrt.mono ?_
            rintro e w9 ⟨rfl, hb9⟩
            have HZ := Lib.hid (HV.out.under hb9)
            clear v0 v1 v2 v3 vl hrt hb9
            go_wp2_with fail
            go_roundw
            case rel => exact ⟨k + 1, p, F, G, t, st, R, sr, su, l, A, n, c, by go_num, by omega, by omega, rfl, Lib.hid HZ.out.next⟩
            case measure => simp [intOf]; omega
        by_cases k2 : kd = 2
        · subst k2
          have v0 := HS.out.by_.row.cell (j := 0) rfl
          have v1 := HS.out.by_.row.cell (j := 1) rfl
          have v2 := HS.out.by_.row.cell (j := 2) rfl
          have v3 := HS.out.by_.row.cell (j := 3) rfl
          have vf := HS.out.by_.row.frozen 1
          have vl := HS.out.by_.row.lt
          have HNR := Lib.hid (reads_len HS.out.by_.rd)
          have hTX := turnX1 W.heap.size w3 1 (.int .i64 (n : Int))
          have hL4 := HS.out.log.atX hTX HS.out.by_.xF HS.out.by_.xB
          have hB4 := HS.out.by_.at_ hTX (sr' := n) (q' := t % 2) (A' := A) (n' := n) (c' := c) (R' := R) (HS.out.by_.row.set 1 _) HS.out.by_.rd HS.out.by_.out HS.out.by_.hn HS.out.by_.hc HS.out.by_.hm HS.out.by_.hz
          have hfl := logt_flush hL4 (by have := HS.out.ll; omega)
          have HB4 := Lib.hid hB4
          have hbx : Below W.heap.size w3 (w3.setCell ⟨W.heap.size, 1, none⟩ (.int .i64 (n : Int))) := hTX.down (fun b e => by rw [e]; exact Nat.le_refl _) HS.out.log.tab.le
          have HBX := Lib.hid (And.intro hbx hL4)
          clear hTX hL4 hB4 hbx
          generalize hw4 : w3.setCell ⟨W.heap.size, 1, none⟩ (.int .i64 (n : Int)) = w4 at *
          have HW4 := Lib.hid hw4
          clear hw4
          go_wp2_with fail
          rw [HW4.out]
          refine hfl.mono ?_
          rintro e w5 ⟨rfl, F5, G5, st5, su5, hL5, hT5⟩
          have hB5 := HB4.out.turn hT5
          have hbel : Below W.heap.size W w5 := (HS.out.below.trans HBX.out.1).trans (hT5.down HBX.out.2.far HBX.out.2.tab.le)
          have HV : Hid (PSt W W.heap.size N W.heap.size w5 F5 G5 p d t st5 R R.length su5 [] A n c k) := Lib.hid ⟨hL5, by rw [← HNR.out]; exact hB5, Nat.zero_le _, HS.out.tk, hbel⟩
          clear hB5 hbel hL5 hT5 hfl v0 v1 v2 v3 vf vl o0 o1 o2 o3 o4 ol
          obtain ⟨q, hq⟩ : ∃ q, q = t % 2 := ⟨_, rfl⟩
          have hrt := right_any (s0 := R.length) (c := c) HV.out.log HN.out.1 (by have := HN.out.2; omega) HV.out.by_.rd HV.out.by_.hn
          have v0 := HV.out.by_.row.cell (j := 0) rfl
          have v1 := HV.out.by_.row.cell (j := 1) rfl
          have v2 := HV.out.by_.row.cell (j := 2) rfl
          have v3 := HV.out.by_.row.cell (j := 3) rfl
          have vl := HV.out.by_.row.lt
          unfold stV at hrt
          rw [← hq] at hrt v2
          clear hq
          go_wp2_with fail
          refine hrt.mono ?_
          rintro e w9 ⟨rfl, hb9⟩
          have HZ := Lib.hid (HV.out.under hb9)
          clear v0 v1 v2 v3 vl hrt hb9
          go_wp2_with fail
          go_roundw
          case rel => exact ⟨k + 1, p, F5, G5, t, st5, R, R.length, su5, [], A, n, c, by go_num, by omega, by omega, rfl, Lib.hid HZ.out.next⟩
          case measure => simp [intOf]; omega
        by_cases k3 : kd = 3
        · subst k3
          obtain ⟨hl1, hl2, hl3⟩ := light_facts HLT.out
          have hs : ∀ r ∈ rs, r.length ≤ 32768 := fun r hr => by have := hl2 r hr; omega
          have hws : W.heap.size ≤ w3.heap.size := HS.out.log.tab.le
          have hRA : Reads w3 w3.heap.size 1 A1 n1 (strL rs) := HR.out.2.rd.more hws
          have v0 := HS.out.by_.row.cell (j := 0) rfl
          have v1 := HS.out.by_.row.cell (j := 1) rfl
          have v2 := HS.out.by_.row.cell (j := 2) rfl
          have v3 := HS.out.by_.row.cell (j := 3) rfl
          have vl := HS.out.by_.row.lt
          by_cases hfit : (encs rs).length ≤ 128 * hB N (t + 1)
          · have han := anew_ok_ N t sr HN.out.1 (by have := HN.out.2; omega) A n c rs A1 n1 c1 w3 hRA HR.out.2.hn hs (by omega) hfit
            unfold stV at han
            obtain ⟨q, hq⟩ : ∃ q, q = t % 2 := ⟨_, rfl⟩
            obtain ⟨q1, hq1⟩ : ∃ q1, q1 = (t + 1) % 2 := ⟨_, rfl⟩
            rw [← hq, ← hq1] at han
            rw [← hq] at v2
            have HQ := Lib.hid (And.intro hq1 (And.intro hs hfit))
            clear hq hq1 hl1 hl2 hl3 hs hfit hws hRA
            go_wp2_with fail
            refine han.mono ?_
            rintro e w4 ⟨rfl, hb4⟩
            obtain ⟨w5, hw5⟩ : ∃ w5, w5 = w4.alloc (.cells #[.int .i64 (N : Int), .int .i64 (n1 : Int), .int .i64 (q1 : Int), .slice A1 n1 c1] 25) := ⟨_, rfl⟩
            have b45 : Below w4.heap.size w4 w5 := by rw [hw5]; exact (Below.refl _ w4).alloc (Nat.le_refl _) _
            have b5 : Below w3.heap.size w3 w5 := hb4.trans (b45.mono hb4.size)
            have r5 : Row w5 w4.heap.size 25 [.int .i64 (N : Int), .int .i64 (n1 : Int), .int .i64 (q1 : Int), .slice A1 n1 c1] := by rw [hw5]; exact Row.new w4 _ [.int .i64 (N : Int), .int .i64 (n1 : Int), .int .i64 (q1 : Int), .slice A1 n1 c1]
            have r3 := HR.out.1.keep (hb4.block _ HR.out.1.lt)
            have HS5 := Lib.hid (HS.out.under b5)
            have hR5 : Reads w5 w5.heap.size 1 A1 n1 (strL rs) := (HR.out.2.rd.below (b5.mono HS.out.log.tab.le)).more (Nat.le_trans HS.out.log.tab.le b5.size)
            have hop1 : ∀ ad, A1 = some ad → 0 < n1 → ad.block < W.heap.size := fun ad e h0 => by
              obtain ⟨a2, e2, hb2, _⟩ := HR.out.2.rd.2 h0
              rw [e] at e2
              injection e2 with e2
              subst e2
              exact hb2
            have han2 := logt_anew HS5.out.log (by have := HS.out.tk; omega) rs A1 n1 c1 hR5 (fun ad e h0 hf => by have := hop1 ad e h0; have := HS5.out.log.far _ hf; omega) HR.out.2.hn HQ.out.2.1 HQ.out.2.2 (by have := HS.out.ll; omega) (H0.out.2.2.2.2.on HS5.out.below)
            have hnF : ¬ Un F G w4.heap.size := fun hf => by have := HS.out.log.lt _ hf; have := hb4.size; omega
            have H5 := Lib.hid (And.intro r5 (And.intro hR5 (And.intro hop1 (And.intro hnF HQ.out.1))))
            have o4 := r3.cell (j := 4) rfl
            have ol := r3.lt
            have HW5 := Lib.hid hw5.symm
            clear hw5 b45 b5 r5 r3 hR5 hop1 hnF han hb4 v0 v1 v2 v3 vl o0 o1 o2 o3
            go_wp2_with fail
            rw [HW5.out]
            refine han2.mono ?_
            rintro e w6 ⟨rfl, F6, G6, st6, su6, hL6, hT6⟩
            have HB6 := Lib.hid (And.intro (HS5.out.by_.turn hT6) (And.intro hL6 (HS5.out.below.trans (hT6.down HS5.out.log.far HS5.out.log.tab.le))))
            have r6 := H5.out.1.keep (hT6.block _ H5.out.1.lt H5.out.2.2.2.1)
            have hR6 := reads_turnZ H5.out.2.1 hT6 (fun ad e h0 hf => by have := H5.out.2.2.1 ad e h0; have := HS5.out.log.far _ hf; omega)
            have b0 := r6.cell (j := 0) rfl
            have b1 := r6.cell (j := 1) rfl
            have b2 := r6.cell (j := 2) rfl
            have b3 := r6.cell (j := 3) rfl
            have bl := r6.lt
            have a0 := HB6.out.1.row.cell (j := 0) rfl
            have a1 := HB6.out.1.row.cell (j := 1) rfl
            have a2 := HB6.out.1.row.cell (j := 2) rfl
            have a3 := HB6.out.1.row.cell (j := 3) rfl
            have f0 := HB6.out.1.row.frozen 0
            have f1 := HB6.out.1.row.frozen 1
            have f2 := HB6.out.1.row.frozen 2
            have f3 := HB6.out.1.row.frozen 3
            have al := HB6.out.1.row.lt
            have HV : Hid (PSt W W.heap.size N W.heap.size ((((w6.setCell ⟨W.heap.size, 0, none⟩ (.int .i64 (N : Int))).setCell ⟨W.heap.size, 1, none⟩ (.int .i64 (n1 : Int))).setCell ⟨W.heap.size, 2, none⟩ (.int .i64 (q1 : Int))).setCell ⟨W.heap.size, 3, none⟩ (.slice A1 n1 c1)) F6 G6 p d (t + 1) st6 rs rs.length su6 [] A1 n1 c1 (k + 1)) := Lib.hid (by
              have T := (((turnX1 W.heap.size w6 0 (.int .i64 (N : Int))).trans (turnX1 W.heap.size _ 1 (.int .i64 (n1 : Int)))).trans (turnX1 W.heap.size _ 2 (.int .i64 (q1 : Int)))).trans (turnX1 W.heap.size _ 3 (.slice A1 n1 c1))
              have hnr := reads_len hR6
              refine ⟨HB6.out.2.1.atX T HB6.out.1.xF HB6.out.1.xB, by rw [← hnr, ← H5.out.2.2.2.2]; exact HB6.out.1.at_ T ((((HB6.out.1.row.set 0 _).set 1 _).set 2 _).set 3 _) hR6 (fun ad e h0 => ⟨fun hf => by have := H5.out.2.2.1 ad e h0; have := HB6.out.2.1.far _ hf; omega, by have := H5.out.2.2.1 ad e h0; omega⟩) HR.out.2.hn HR.out.2.hc HR.out.2.hm HR.out.2.hz, Nat.zero_le _, by have := HS.out.tk; omega, HB6.out.2.2.trans (T.down (fun b e => by have e : b = W.heap.size := e; omega) HB6.out.2.1.tab.le)⟩)
            clear r6 hR6 hL6 hT6 han2
            obtain ⟨q, hq⟩ : ∃ q, q = (t + 1) % 2 := ⟨_, rfl⟩
            have hrt := right_any (s0 := rs.length) (c := c1) HV.out.log HN.out.1 (by have := HN.out.2; omega) HV.out.by_.rd HV.out.by_.hn
            have v0 := HV.out.by_.row.cell (j := 0) rfl
            have v1 := HV.out.by_.row.cell (j := 1) rfl
            have v2 := HV.out.by_.row.cell (j := 2) rfl
            have v3 := HV.out.by_.row.cell (j := 3) rfl
            have vl := HV.out.by_.row.lt
            unfold stV at hrt
            rw [← hq] at hrt v2
            clear hq
            go_wp2_with fail
            refine hrt.mono ?_
            rintro e w9 ⟨rfl, hb9⟩
            have HZ := Lib.hid (HV.out.under hb9)
            clear v0 v1 v2 v3 vl hrt hb9
            go_wp2_with fail
            go_roundw
            case rel => exact ⟨k + 1, p, F6, G6, t + 1, st6, rs, rs.length, su6, [], A1, n1, c1, by go_num, by omega, by omega, rfl, Lib.hid (show PSt W W.heap.size N W.heap.size w9 F6 G6 p d (t + 1) st6 rs rs.length su6 [] A1 n1 c1 (k + 1) from HZ.out)⟩
            case measure => simp [intOf]; omega
          · have hful : 128 * hB N (t + 1) < (encs rs).length := by omega
            have han := anew_full_ N t sr HN.out.1 (by have := HN.out.2; omega) A n c rs A1 n1 c1 w3 hRA HR.out.2.hn hs (by omega) hful
            have hjE := joinE_full hs hful
            unfold stV at han
            obtain ⟨q, hq⟩ : ∃ q, q = t % 2 := ⟨_, rfl⟩
            rw [← hq] at han v2
            have HQ := Lib.hid (And.intro hq hjE)
            clear hq hl1 hl2 hl3 hs hfit hws hRA hful hjE
            go_wp2_with fail
            refine han.mono ?_
            rintro e w4 ⟨rfl, hb4⟩
            obtain ⟨w5, hw5⟩ : ∃ w5, w5 = w4.alloc (.cells #[.int .i64 (N : Int), .int .i64 (sr : Int), .int .i64 (q : Int), .slice A n c] 25) := ⟨_, rfl⟩
            have b45 : Below w4.heap.size w4 w5 := by rw [hw5]; exact (Below.refl _ w4).alloc (Nat.le_refl _) _
            have b5 : Below w3.heap.size w3 w5 := hb4.trans (b45.mono hb4.size)
            have r5 : Row w5 w4.heap.size 25 [.int .i64 (N : Int), .int .i64 (sr : Int), .int .i64 (q : Int), .slice A n c] := by rw [hw5]; exact Row.new w4 _ [.int .i64 (N : Int), .int .i64 (sr : Int), .int .i64 (q : Int), .slice A n c]
            have r3 := HR.out.1.keep (hb4.block _ HR.out.1.lt)
            have HS5 := Lib.hid (HS.out.under b5)
            have hR5 : Reads w5 w5.heap.size 1 A1 n1 (strL rs) := (HR.out.2.rd.below (b5.mono HS.out.log.tab.le)).more (Nat.le_trans HS.out.log.tab.le b5.size)
            have han2 := anew_no HS5.out.log.log (by have := HS.out.tk; omega) rs A1 n1 c1 hR5 HR.out.2.hn 70 HQ.out.2 (by decide) HS5.out.log.tab.t1
            have H5 := Lib.hid r5
            have o4 := r3.cell (j := 4) rfl
            have ol := r3.lt
            have HW5 := Lib.hid hw5.symm
            clear hw5 b45 b5 r5 r3 hR5 han hb4 v0 v1 v2 v3 vl o0 o1 o2 o3
            go_wp2_with fail
            rw [HW5.out]
            refine han2.mono ?_
            rintro e w6 ⟨rfl, hb6⟩
            have HS6 := Lib.hid (HS5.out.under hb6)
            have r6 := H5.out.keep (hb6.block _ H5.out.lt)
            have b0 := r6.cell (j := 0) rfl
            have b1 := r6.cell (j := 1) rfl
            have b2 := r6.cell (j := 2) rfl
            have b3 := r6.cell (j := 3) rfl
            have bl := r6.lt
            have a0 := HS6.out.by_.row.cell (j := 0) rfl
            have a1 := HS6.out.by_.row.cell (j := 1) rfl
            have a2 := HS6.out.by_.row.cell (j := 2) rfl
            have a3 := HS6.out.by_.row.cell (j := 3) rfl
            have f0 := HS6.out.by_.row.frozen 0
            have f1 := HS6.out.by_.row.frozen 1
            have f2 := HS6.out.by_.row.frozen 2
            have f3 := HS6.out.by_.row.frozen 3
            have al := HS6.out.by_.row.lt
            have HV : Hid (PSt W W.heap.size N W.heap.size ((((w6.setCell ⟨W.heap.size, 0, none⟩ (.int .i64 (N : Int))).setCell ⟨W.heap.size, 1, none⟩ (.int .i64 (sr : Int))).setCell ⟨W.heap.size, 2, none⟩ (.int .i64 (q : Int))).setCell ⟨W.heap.size, 3, none⟩ (.slice A n c)) F G p d t st R sr su l A n c k) := Lib.hid (by
              have T := (((turnX1 W.heap.size w6 0 (.int .i64 (N : Int))).trans (turnX1 W.heap.size _ 1 (.int .i64 (sr : Int)))).trans (turnX1 W.heap.size _ 2 (.int .i64 (q : Int)))).trans (turnX1 W.heap.size _ 3 (.slice A n c))
              refine ⟨HS6.out.log.atX T HS6.out.by_.xF HS6.out.by_.xB, by rw [← HQ.out.1]; exact HS6.out.by_.at_ T ((((HS6.out.by_.row.set 0 _).set 1 _).set 2 _).set 3 _) HS6.out.by_.rd HS6.out.by_.out HS6.out.by_.hn HS6.out.by_.hc HS6.out.by_.hm HS6.out.by_.hz, HS6.out.ll, HS6.out.tk, HS6.out.below.trans (T.down (fun b e => by have e : b = W.heap.size := e; omega) HS6.out.log.tab.le)⟩)
            clear r6 hb6 han2
            obtain ⟨q, hq⟩ : ∃ q, q = t % 2 := ⟨_, rfl⟩
            have hrt := right_any (s0 := sr) (c := c) HV.out.log HN.out.1 (by have := HN.out.2; omega) HV.out.by_.rd HV.out.by_.hn
            have v0 := HV.out.by_.row.cell (j := 0) rfl
            have v1 := HV.out.by_.row.cell (j := 1) rfl
            have v2 := HV.out.by_.row.cell (j := 2) rfl
            have v3 := HV.out.by_.row.cell (j := 3) rfl
            have vl := HV.out.by_.row.lt
            unfold stV at hrt
            rw [← hq] at hrt v2
            clear hq
            go_wp2_with fail
            refine hrt.mono ?_
            rintro e w9 ⟨rfl, hb9⟩
            have HZ := Lib.hid (HV.out.under hb9)
            clear v0 v1 v2 v3 vl hrt hb9
            go_wp2_with fail
            go_roundw
            case rel => exact ⟨k + 1, p, F, G, t, st, R, sr, su, l, A, n, c, by go_num, by omega, by omega, rfl, Lib.hid HZ.out.next⟩
            case measure => simp [intOf]; omega
        by_cases k4 : kd = 4
        · subst k4
          have hfa := logt_fail HS.out.log (by have := HS.out.ll; omega) x y HR.out.2.bx.1 HR.out.2.bx.2 HR.out.2.by_.1 HR.out.2.by_.2
          go_wp2_with fail
          refine hfa.mono ?_
          rintro e w4 ⟨rfl, hD4, hT4⟩
          have hB4 := (HS.out.by_.less (Z' := F) (fun b hb => .inl hb)).turn hT4
          have hop := logt_open hD4 (by have := HN.out.2; omega)
          have HB4 := Lib.hid (And.intro hB4 (And.intro (HS.out.below.trans (hT4.down (fun b hb => HS.out.log.far b (.inl hb)) HS.out.log.tab.le)) (And.intro hD4.far hD4.tab.le)))
          clear hB4 hD4 hT4 hfa o0 o1 o2 o3 o4 ol
          go_wp2_with fail
          refine hop.mono ?_
          rintro e w5 ⟨p5, F5, G5, st5, su5, m, rfl, hm1, hm2, hL5, hT5⟩
          have hall := logf_all hL5
          have HB5 := Lib.hid (And.intro (HB4.out.1.turn hT5) (And.intro hL5 (HB4.out.2.1.trans (hT5.down HB4.out.2.2.1 HB4.out.2.2.2))))
          have HM := Lib.hid (And.intro hm1 hm2)
          clear hL5 hT5 hop
          go_wp2_with fail
          refine hall.mono ?_
          rintro e w6 ⟨A6, n6, c6, rfl, hn6, hm6, hR6, hb6⟩
          have hn6' : n6 = m := by rw [hn6, List.length_take]; have := HM.out.2; omega
          subst hn6'
          have HB6 := Lib.hid (And.intro (HB5.out.1.below hb6) (And.intro (HB5.out.2.1.below hb6) (HB5.out.2.2.trans (hb6.mono HB5.out.2.1.tab.le))))
          have HNR := Lib.hid (reads_len HB5.out.1.rd)
          have z1 : ¬ (n6 : Int) < (sr : Int) := by have := HM.out.1; omega
          have z2 : ¬ (n : Int) < (n6 : Int) := by have := HM.out.2; have := HNR.out; omega
          have z3 : n6 ≤ c := by have := HB5.out.1.hc; omega
          have z3z : (n6 : Int) ≤ (c : Int) := by omega
          have z4 : c ≤ 9223372036854775807 := by have := HB5.out.1.hm; unfold maxLen at this; omega
          have a0 := HB6.out.1.row.cell (j := 0) rfl
          have a1 := HB6.out.1.row.cell (j := 1) rfl
          have a3 := HB6.out.1.row.cell (j := 3) rfl
          have f1 := HB6.out.1.row.frozen 1
          have f3 := HB6.out.1.row.frozen 3
          have al := HB6.out.1.row.lt
          have HV : Hid (PSt W W.heap.size N W.heap.size ((w6.setCell ⟨W.heap.size, 3, none⟩ (.slice A n6 n6)).setCell ⟨W.heap.size, 1, none⟩ (.int .i64 (n6 : Int))) F5 G5 p5 d t st5 (R.take n6) n6 su5 [] A n6 n6 k) := Lib.hid (by
            have T := (turnX1 W.heap.size w6 3 (.slice A n6 n6)).trans (turnX1 W.heap.size _ 1 (.int .i64 (n6 : Int)))
            have hle : n6 ≤ n := by have := HM.out.2; have := HNR.out; omega
            refine ⟨HB6.out.2.1.atX T HB6.out.1.xF HB6.out.1.xB, HB6.out.1.at_ T ((HB6.out.1.row.set 3 _).set 1 _) (reads_take HB6.out.1.rd hle) (fun ad e h0 => HB6.out.1.out ad e (by omega)) (Nat.le_trans hle HB6.out.1.hn) (Nat.le_refl _) (Nat.le_trans hle HB6.out.1.hn) (fun e => by have := HB6.out.1.hz e; have := HB6.out.1.hc; omega), Nat.zero_le _, HS.out.tk, HB6.out.2.2.trans (T.down (fun b e => by have e : b = W.heap.size := e; omega) HB6.out.2.1.tab.le)⟩)
          clear hn6 hm6 hR6 hb6 hall hm1 hm2
          obtain ⟨q, hq⟩ : ∃ q, q = t % 2 := ⟨_, rfl⟩
          have hrt := right_any (s0 := n6) (c := n6) HV.out.log HN.out.1 (by have := HN.out.2; omega) HV.out.by_.rd HV.out.by_.hn
          have v0 := HV.out.by_.row.cell (j := 0) rfl
          have v1 := HV.out.by_.row.cell (j := 1) rfl
          have v2 := HV.out.by_.row.cell (j := 2) rfl
          have v3 := HV.out.by_.row.cell (j := 3) rfl
          have vl := HV.out.by_.row.lt
          unfold stV at hrt
          rw [← hq] at hrt v2
          clear hq
          go_wp2_with fail
          refine hrt.mono ?_
          rintro e w9 ⟨rfl, hb9⟩
          have HZ := Lib.hid (HV.out.under hb9)
          clear v0 v1 v2 v3 vl hrt hb9
          go_wp2_with fail
          go_roundw
          case rel => exact ⟨k + 1, p5, F5, G5, t, st5, R.take n6, n6, su5, [], A, n6, n6, by go_num, by omega, by omega, rfl, Lib.hid HZ.out.next⟩
          case measure => simp [intOf]; omega
        have HV := HS
        clear HS
        have e1 : (kd == 1) = false := by simpa using k1
        have e2 : (kd == 2) = false := by simpa using k2
        have e3 : (kd == 3) = false := by simpa using k3
        have e4 : (kd == 4) = false := by simpa using k4
        obtain ⟨q, hq⟩ : ∃ q, q = t % 2 := ⟨_, rfl⟩
        have hrt := right_any (s0 := sr) (c := c) HV.out.log HN.out.1 (by have := HN.out.2; omega) HV.out.by_.rd HV.out.by_.hn
        have v0 := HV.out.by_.row.cell (j := 0) rfl
        have v1 := HV.out.by_.row.cell (j := 1) rfl
        have v2 := HV.out.by_.row.cell (j := 2) rfl
        have v3 := HV.out.by_.row.cell (j := 3) rfl
        have vl := HV.out.by_.row.lt
        unfold stV at hrt
        rw [← hq] at hrt v2
        clear hq
        go_wp2_with fail
        refine hrt.mono ?_
        rintro e w9 ⟨rfl, hb9⟩
        have HZ := Lib.hid (HV.out.under hb9)
        clear v0 v1 v2 v3 vl hrt hb9
        go_wp2_with fail
        go_roundw
        case rel => exact ⟨k + 1, p, F, G, t, st, R, sr, su, l, A, n, c, by go_num, by omega, by omega, rfl, Lib.hid HZ.out.next⟩
        case measure => simp [intOf]; omega
    · have haw := HA.out wr HT.out.log.tab
      by_cases hlt : k < n0
      · have hltz : (k : Int) < (n0 : Int) := by omega
        have hltz2 : ¬ (k : Int) < 60 := by omega
        go_wp2_with fail
        refine haw.mono ?_
        rintro e w4 ⟨rfl, hb4⟩
        go_wp2_with fail
        go_ret
        exact ⟨rfl, HT.out.below.trans hb4⟩
      · have hltz : ¬ (k : Int) < (n0 : Int) := by omega
        go_wp2_with fail
        refine haw.mono ?_
        rintro e w4 ⟨rfl, hb4⟩
        go_wp2_with fail
        go_ret
        exact ⟨rfl, HT.out.below.trans hb4⟩
end Go.Proofs.YtkehojgiappiiaaGreatDoor
