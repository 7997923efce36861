/- Timers that are set at whatever ticks. Conditions: the pairs read as a list. -/
import Derived.Test.YtfojempmgonahaaWhTells
set_option linter.unusedVariables false
set_option linter.unusedSimpArgs false
set_option maxRecDepth 100000
namespace Go.Proofs.Ytfojempmgonahaa.Wh
open Go Go.RowKit Go.Maps
/-- Pairs as cells. -/
def twos (l : List (Int × Int)) : List Value := l.flatMap fun t => [.int .i64 t.1, .int .i64 t.2]
theorem twos_at (l : List (Int × Int)) (k : Nat) (hk : k < l.length) : (twos l)[2 * k]? = some (.int .i64 (l.getD k (0, 0)).1) ∧ (twos l)[2 * k + 1]? = some (.int .i64 (l.getD k (0, 0)).2) := by
  induction l generalizing k with
  | nil => simp at hk
  | cons t r ih =>
    have e : twos (t :: r) = .int .i64 t.1 :: .int .i64 t.2 :: twos r := by simp [twos]
    rw [e]
    rcases k with _ | k
    · simp
    · have := ih k (by simpa using hk)
      rw [show 2 * (k + 1) = 2 * k + 1 + 1 by omega]
      simpa using this
theorem twos_len (l : List (Int × Int)) : (twos l).length = 2 * l.length := by
  induction l with
  | nil => rfl
  | cons t r ih =>
    have e : twos (t :: r) = .int .i64 t.1 :: .int .i64 t.2 :: twos r := by simp [twos]
    rw [e]
    simp only [List.length_cons, ih]
    omega
theorem pair_at {w : World} {B n k : Nat} {A : Option Addr} {l : List (Int × Int)} (h : Reads w B 2 A n (twos l)) (hk : k < n) : ∃ ad, A = some ad ∧ ad.block < B ∧
    w.cell? (ad.add (k * 2)) = some (.int .i64 (l.getD k (0, 0)).1) ∧ w.cell? ⟨(ad.add (k * 2)).block, (ad.add (k * 2)).off + 1, none⟩ = some (.int .i64 (l.getD k (0, 0)).2) := by
  have hl : n = l.length := by
    have := h.1
    rw [twos_len] at this
    omega
  obtain ⟨ad, e, hb, hc⟩ := h.2 (by omega)
  obtain ⟨t1, t2⟩ := twos_at l k (by omega)
  refine ⟨ad, e, hb, ?_, ?_⟩
  · rw [Nat.mul_comm]
    exact hc _ _ t1
  · show w.cell? ((ad.add (k * 2)).add 1) = _
    rw [add_of_add, Nat.mul_comm]
    exact hc _ _ t2
def ahead (l : List (Int × Int)) (i : Nat) : Int := (l.getD i (0, 0)).1 % 16
def long (l : List (Int × Int)) (i : Nat) : Int := (l.getD i (0, 0)).2 % 64
def nowF (l : List (Int × Int)) : Nat → Int
  | 0 => 0
  | i + 1 => nowF l i + ahead l i
def dueF (l : List (Int × Int)) (i : Nat) : Int := nowF l (i + 1) + 1 + long l i
theorem ahead_b (l : List (Int × Int)) (i : Nat) : 0 ≤ ahead l i ∧ ahead l i < 16 := ⟨Int.emod_nonneg _ (by decide), Int.emod_lt_of_pos _ (by decide)⟩
theorem long_b (l : List (Int × Int)) (i : Nat) : 0 ≤ long l i ∧ long l i < 64 := ⟨Int.emod_nonneg _ (by decide), Int.emod_lt_of_pos _ (by decide)⟩
theorem now_b (l : List (Int × Int)) (i : Nat) : 0 ≤ nowF l i ∧ nowF l i ≤ 16 * (i : Int) := by
  induction i with
  | zero => simp [nowF]
  | succ i ih =>
    have := ahead_b l i
    unfold nowF
    omega
theorem now_mono (l : List (Int × Int)) {i j : Nat} (h : i ≤ j) : nowF l i ≤ nowF l j := by
  induction j with
  | zero =>
    obtain rfl : i = 0 := by omega
    exact Int.le_refl _
  | succ j ih =>
    by_cases hj : i = j + 1
    · rw [hj]
      exact Int.le_refl _
    · have := ih (by omega)
      have := ahead_b l j
      show nowF l i ≤ nowF l j + ahead l j
      omega
/-- The law's wheel and its list, in memory. -/
structure LaterS (w wr : World) (p bm dm : Nat) (now : Int) (L : List Tm) (G : List (Int × Nat)) (v : Value) (ds : List Int) : Prop where
  wheel : WheelW wr p bm dm now L G
  far : ∀ b, Foot p bm dm G b → w.heap.size ≤ b
  below : Below w.heap.size w wr
  own : wr.ownsRow w.heap.size 3 1 v ds.length (ints ds)
  off : ∀ g, v.ownBlock = some g → ¬ Foot p bm dm G g
section
variable {w wr w' : World} {p bm dm : Nat} {now now' : Int} {L L' : List Tm} {G G' : List (Int × Nat)} {v : Value} {ds : List Int}
theorem LaterS.step (h : LaterS w wr p bm dm now L G v ds) (hw : WheelW w' p bm dm now' L' G') (T : Turn (Foot p bm dm G) wr (Foot p bm dm G') w') : LaterS w w' p bm dm now' L' G' v ds :=
  ⟨hw, T.far h.far h.below.size, h.below.trans (T.down h.far h.below.size), own_keep h.own fun g hg => T.block g (h.own.lt g hg).2 (h.off g hg),
   fun g hg hF => (T.foot g hF).elim (h.off g hg) (fun hge => by have := (h.own.lt g hg).2; omega)⟩
theorem LaterS.push (h : LaterS w wr p bm dm now L G v ds) {v' : Value} {x : Int} (ho : w'.ownsRow w.heap.size 3 1 v' (ds.length + 1) (ints (ds ++ [x]))) (hg : wr.grownBy w' v.ownBlock)
    (hl : v'.ownBlock = v.ownBlock ∨ ∀ k, v'.ownBlock = some k → wr.heap.size ≤ k) : LaterS w w' p bm dm now L G v' (ds ++ [x]) := by
  refine ⟨h.wheel.keep fun b hb => hg.block b (h.wheel.lt b hb) (fun e => h.off b e.symm hb), h.far, h.below.trans (below_own h.own hg h.below.size), by rw [List.length_append]; exact ho, fun g hv hF => ?_⟩
  rcases hl with hl | hl
  · rw [hl] at hv
    exact h.off g hv hF
  · have := hl g hv
    have := h.wheel.lt g hF
    omega
theorem LaterS.reads (h : LaterS w wr p bm dm now L G v ds) {n : Nat} (hn : ds.length = n) : ∃ A c, v = .slice A n c ∧ Reads wr wr.heap.size 1 A n (ints ds) := by
  subst hn
  obtain ⟨A, c, rfl, _, _⟩ := own_shape h.own
  exact ⟨A, c, rfl, Reads.of_own h.own⟩
end
theorem append_int3 {ops : Array Oper} {rest : List Oper} {o : Oper} {a : Act} {Q : Exit → Act → World → Prop} {W : World} (hgd : o.guard = none) (s x : Operand)
    (ho : o.op = .call { callee := .builtin .append, args := #[s, x], argTypes := #[25, 25] })
    (base : Nat) (v : Value) (n : Nat) (xs : List Value) (z : Int) (hs : a.eval s = v) (hown : W.ownsRow base 3 1 v n xs) (N : Nat) (hN : N = W.heap.size) (hx : a.eval x = .slice (some ⟨N, 0, none⟩) 1 1)
    (hn : n ≤ 1000000) (hbase : base ≤ W.heap.size)
    (h : ∀ v' w', w'.ownsRow base 3 1 v' (n + 1) (xs ++ [.int .i64 z]) → W.grownBy w' v.ownBlock → (v'.ownBlock = v.ownBlock ∨ ∀ k, v'.ownBlock = some k → W.heap.size ≤ k) → wpList Try.prog ops Q rest (a.put o.dst v') w') :
    wpList Try.prog ops Q (o :: rest) a (W.alloc (.cells #[.int .i64 z] 3)) := by
  subst hN
  obtain ⟨i0, hi, hz0, hz1, hz2⟩ := info_parts int_row
  exact append_new hgd s x 25 3 3 ho base i0 (.int .i64 0) 1 8 Try.underlying25 hi hz0 hz1 hz2 rfl (by decide) (by decide) v n xs hs hown hx #[.int .i64 z] rfl (by intro u hu; simp at hu; subst hu; rfl) (by omega) hbase (fun v' w' a b c => h v' w' a b c)
set_option maxHeartbeats 16000000 in
theorem later_walk (l : List (Int × Int)) {w : World} {B n c : Nat} {A : Option Addr} (hR : Reads w B 2 A n (twos l)) (hB : B ≤ w.heap.size) (hn63 : n ≤ 9223372036854775807) :
    Calls Try.prog 8 #[.slice A n c] w (Gives (.bool true) w) := by
  have H0 := Lib.hid (wnew_any w)
  have HRD := Lib.hid (fun w1 (hb : Below w.heap.size w w1) => hR.below (hb.mono hB))
  clear hR
  by_cases hlong : (60 : Int) < (n : Int)
  · have HA := Lib.hid awake_any
    go_enter Try.func8, Try.ntmps8
    go_wp2_with fail
    refine H0.out.mono ?_
    rintro e w1 ⟨p, bm, dm, rfl, h1, hFo, hBe⟩
    have HBe := Lib.hid hBe
    clear h1 hFo hBe
    go_wp2_with fail
    refine (HA.out w1).mono ?_
    rintro e w2 ⟨rfl, h2⟩
    have hfin := HBe.out.trans (h2.mono HBe.out.size)
    go_wp2
    go_ret
    exact ⟨rfl, hfin⟩
  · have hn60 : n ≤ 60 := by omega
    obtain ⟨f, hf⟩ : ∃ f : Nat → Int, f = dueF l := ⟨_, rfl⟩
    have HFD := Lib.hid hf
    clear hf
    go_enter Try.func8, Try.ntmps8
    go_wp2_with fail
    refine H0.out.mono ?_
    rintro e w1 ⟨p, bm, dm, rfl, h1, hFo, hBe⟩
    have HL0 := Lib.hid (show LaterS w w1 p bm dm 0 [] [] (.slice none 0 0) [] from ⟨h1, hFo, hBe, World.ownsRow_nil .., fun g hg => by cases hg⟩)
    clear h1 hFo hBe
    go_wp2_with fail
    go_loopw [4, 5, 6] (fun s4 s5 s6 wr => ∃ i : Nat, s6 = .int .i64 (i : Int) ∧ i ≤ n ∧ s4 = .int .i64 (nowF l i) ∧ ∃ G, LaterS w wr p bm dm (nowF l i) (live f i (nowF l i)) G s5 (ticks f i)) (fun _ _ s6 _ => ((n : Int) - intOf s6).toNat)
    case atStart => exact ⟨0, rfl, by omega, rfl, [], HL0.out⟩
    case round =>
      obtain ⟨i, rfl, hi, rfl, G4, h4⟩ := hrel
      by_cases hin : i < n
      · have hinz : (i : Int) < (n : Int) := by omega
        obtain ⟨Ad, cd, rfl, _⟩ := h4.reads (ticks_len f i)
        obtain ⟨ad, rfl, hab, hc0, hc1⟩ := pair_at (HRD.out w (Below.refl _ _)) hin
        have hbl : (ad.add (i * 2)).block < w.heap.size := by rw [block_of_add]; omega
        have HC := Lib.hid (fun w1 (hb : Below w.heap.size w w1) => show w1.cell? (ad.add (i * 2)) = some (.int .i64 (l.getD i (0, 0)).1) ∧ w1.cell? ⟨(ad.add (i * 2)).block, (ad.add (i * 2)).off + 1, none⟩ = some (.int .i64 (l.getD i (0, 0)).2) ∧ (ad.add (i * 2)).block < w1.heap.size from
          ⟨(hb.cell hbl).trans hc0, (hb.cell (p := ⟨(ad.add (i * 2)).block, (ad.add (i * 2)).off + 1, none⟩) hbl).trans hc1, Nat.lt_of_lt_of_le hbl hb.size⟩)
        have ex := i64_and15 (l.getD i (0, 0)).1
        have ey := i64_and63 (l.getD i (0, 0)).2
        have hA := Lib.hid (show (l.getD i (0, 0)).1 % 16 = ahead l i from rfl)
        have hL := Lib.hid (show (l.getD i (0, 0)).2 % 64 = long l i from rfl)
        rw [hA.out] at ex
        rw [hL.out] at ey
        have hab := ahead_b l i
        have hlb := long_b l i
        have hnb := now_b l i
        have HNX := Lib.hid (show nowF l (i + 1) = nowF l i + ahead l i from rfl)
        have HDU := Lib.hid (show f i = nowF l (i + 1) + 1 + long l i by rw [HFD.out]; rfl)
        generalize (l.getD i (0, 0)).1 = x at *
        generalize (l.getD i (0, 0)).2 = y at *
        generalize ahead l i = a at *
        generalize long l i = b at *
        generalize nowF l i = N at *
        have H4 := Lib.hid h4
        clear h4 hc0 hc1 hA hL
        go_wp2_with fail
        obtain ⟨w0, hw0⟩ : ∃ w0, w0 = wr := ⟨_, rfl⟩
        subst hw0
        go_loopw [4, 7] (fun s4 s7 wr => ∃ j : Nat, s7 = .int .i64 (j : Int) ∧ (j : Int) ≤ a ∧ s4 = .int .i64 (N + (j : Int)) ∧ ∃ G, LaterS w wr p bm dm (N + (j : Int)) (live f i (N + (j : Int))) G (.slice Ad i cd) (ticks f i)) (fun _ s7 _ => (16 - intOf s7).toNat)
        case atStart => exact ⟨0, rfl, by omega, by rw [show N + ((0 : Nat) : Int) = N by omega], G4, by rw [show N + ((0 : Nat) : Int) = N by omega]; exact H4.out⟩
        case round =>
          obtain ⟨j, rfl, hj, rfl, G5, h5⟩ := hrel
          obtain ⟨d0, d1, dl⟩ := HC.out wr h5.below
          have H5 := Lib.hid h5
          by_cases hja : (j : Int) < a
          · have wn : IntKind.i64.wrap (N + (j : Int) + 1) = N + (j : Int) + 1 := by rw [IntKind.wrap_i64]; omega
            have S := tick_held h5.wheel (by omega)
            unfold TickP at S
            rw [live_outs, live_rest] at S
            have HS := Lib.hid S
            clear S h5
            go_wp2_with fail
            refine HS.out.mono ?_
            rintro e w6 ⟨A6, n6, c6, G6, rfl, hn6, hh6, hnc6, hcm6, h6, T6⟩
            have h7 := H5.out.step h6 T6
            obtain ⟨A7, c7, e7, hr7⟩ := h7.reads (ticks_len f i)
            injection e7 with e7 _ e7'
            subst e7 e7'
            have HT := Lib.hid (tells_any f (N + (j : Int) + 1) (c := c6) (c2 := cd) hh6.reads hr7 (Nat.le_refl _) (Nat.le_refl _) (by omega))
            have H7 := Lib.hid h7
            clear h6 T6 hh6 h7 hr7 hn6
            go_wp2_with fail
            with_reducible refine HT.out.mono ?_
            rintro e w8 ⟨rfl, rfl⟩
            go_wp2
            exact ⟨⟨j + 1, by go_num, by omega, by go_num, G6, by rw [show N + ((j + 1 : Nat) : Int) = N + (j : Int) + 1 by omega]; exact H7.out⟩, by simp [intOf]; omega⟩
          · obtain rfl : a = (j : Int) := by omega
            have S := set_any h5.wheel (by omega) (x := (i : Int)) (n := 1 + b) (wfn _ (by omega))
            rw [live_set f (by omega) (by omega) (by omega) (by rw [HDU.out, HNX.out]; omega)] at S
            have HS := Lib.hid S
            have wb : IntKind.i64.wrap (1 + b) = 1 + b := by rw [IntKind.wrap_i64]; omega
            clear S h5 hj
            go_wp2_with fail
            with_reducible refine HS.out.mono ?_
            rintro e w6 ⟨rfl, G6, h6, T6⟩
            have h7 := H5.out.step h6 T6
            obtain ⟨d0, d1, dl⟩ := HC.out w6 h7.below
            have hown7 := h7.own
            rw [ticks_len] at hown7
            have HO7 := Lib.hid hown7
            have hbase := h7.below.size
            have H7 := Lib.hid h7
            have wn : IntKind.i64.wrap (N + (j : Int) + 1) = N + (j : Int) + 1 := by rw [IntKind.wrap_i64]; omega
            have wnb : IntKind.i64.wrap (N + (j : Int) + 1 + b) = N + (j : Int) + 1 + b := by rw [IntKind.wrap_i64]; omega
            have HP := Lib.hid (fun v' w' (ho : w'.ownsRow w.heap.size 3 1 v' (i + 1) (ints (ticks f i) ++ [.int .i64 (N + (j : Int) + 1 + b)])) (hg : w6.grownBy w' (Value.slice Ad i cd).ownBlock) (hl : v'.ownBlock = (Value.slice Ad i cd).ownBlock ∨ ∀ k, v'.ownBlock = some k → w6.heap.size ≤ k) => show LaterS w w' p bm dm (nowF l (i + 1)) (live f (i + 1) (nowF l (i + 1))) G6 v' (ticks f (i + 1)) from by
              have hfi : f i = N + (j : Int) + 1 + b := by rw [HDU.out, HNX.out]
              have hnx : nowF l (i + 1) = N + (j : Int) := by rw [HNX.out]
              rw [ints_snoc] at ho
              rw [ticks_succ, hfi, hnx]
              exact H7.out.push (by rw [ticks_len]; exact ho) hg hl)
            clear h6 T6 h7 hown7
            go_wp2_with (first
              | (at_builtin; refine append_int3 rfl (.tmp 57) (.tmp 67) rfl w.heap.size (.slice Ad i cd) i (ints (ticks f i)) (N + (j : Int) + 1 + b) rfl HO7.out _ rfl rfl (by omega) hbase ?_; intro v8 w8 ho8 hg8 hl8; have H8 := Lib.hid (HP.out v8 w8 ho8 hg8 hl8); clear ho8 hg8 hl8 d0 d1 dl))
            exact ⟨⟨i + 1, by go_num, by omega, by rw [HNX.out], G6, H8.out⟩, by simp [intOf]; omega⟩
      · obtain rfl : i = n := by omega
        obtain ⟨Ad, cd, rfl, _⟩ := h4.reads (ticks_len f i)
        have hnb := now_b l i
        have HEND := Lib.hid (show live f i (nowF l i + 65) = [] from live_end f i _ (fun m hm => by
          have h1 := now_mono l (show m + 1 ≤ i from hm)
          have h2 := long_b l m
          rw [HFD.out]
          unfold dueF
          omega))
        generalize nowF l i = N at *
        have H4 := Lib.hid h4
        have hnl : ¬ (i : Int) < (i : Int) := by omega
        have HA := Lib.hid awake_any
        clear h4
        go_wp2_with fail
        clear hnl
        obtain ⟨w0, hw0⟩ : ∃ w0, w0 = wr := ⟨_, rfl⟩
        subst hw0
        go_loopw [4, 8] (fun s4 s8 wr => ∃ j : Nat, s8 = .int .i64 (j : Int) ∧ j ≤ 65 ∧ s4 = .int .i64 (N + (j : Int)) ∧ ∃ G, LaterS w wr p bm dm (N + (j : Int)) (live f i (N + (j : Int))) G (.slice Ad i cd) (ticks f i)) (fun _ s8 _ => (65 - intOf s8).toNat)
        case atStart => exact ⟨0, rfl, by omega, by rw [show N + ((0 : Nat) : Int) = N by omega], G4, by rw [show N + ((0 : Nat) : Int) = N by omega]; exact H4.out⟩
        case round =>
          obtain ⟨j, rfl, hj, rfl, G5, h5⟩ := hrel
          have H5 := Lib.hid h5
          by_cases hja : (j : Int) < 65
          · have wn : IntKind.i64.wrap (N + (j : Int) + 1) = N + (j : Int) + 1 := by rw [IntKind.wrap_i64]; omega
            have S := tick_held h5.wheel (by omega)
            unfold TickP at S
            rw [live_outs, live_rest] at S
            have HS := Lib.hid S
            clear S h5
            go_wp2_with fail
            with_reducible refine HS.out.mono ?_
            rintro e w6 ⟨A6, n6, c6, G6, rfl, hn6, hh6, hnc6, hcm6, h6, T6⟩
            have h7 := H5.out.step h6 T6
            obtain ⟨A7, c7, e7, hr7⟩ := h7.reads (ticks_len f i)
            injection e7 with e7 _ e7'
            subst e7 e7'
            have HT := Lib.hid (tells_any f (N + (j : Int) + 1) (c := c6) (c2 := cd) hh6.reads hr7 (Nat.le_refl _) (Nat.le_refl _) (by omega))
            have H7 := Lib.hid h7
            clear h6 T6 hh6 h7 hr7 hn6
            go_wp2_with fail
            with_reducible refine HT.out.mono ?_
            rintro e w8 ⟨rfl, rfl⟩
            go_wp2
            exact ⟨⟨j + 1, by go_num, by omega, by go_num, G6, by rw [show N + ((j + 1 : Nat) : Int) = N + (j : Int) + 1 by omega]; exact H7.out⟩, by simp [intOf]; omega⟩
          · obtain rfl : j = 65 := by omega
            have hlen := len_any h5.wheel
            rw [show N + ((65 : Nat) : Int) = N + 65 from rfl, HEND.out] at hlen
            have HL := Lib.hid hlen
            have HB5 := Lib.hid h5.below
            clear h5 hlen hja
            have hge : ¬ ((65 : Nat) : Int) < 65 := by omega
            go_wp2_with fail
            refine HL.out.mono ?_
            rintro e w9 ⟨rfl, rfl⟩
            go_wp2_with fail
            refine (HA.out wr).mono ?_
            rintro e w10 ⟨rfl, h10⟩
            have hfin := HB5.out.trans (h10.mono HB5.out.size)
            go_wp2
            go_ret
            exact ⟨rfl, hfin⟩
end Go.Proofs.Ytfojempmgonahaa.Wh
