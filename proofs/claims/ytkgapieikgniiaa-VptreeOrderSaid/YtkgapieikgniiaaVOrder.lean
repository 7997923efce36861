/- VptreeOrder: in whatever order points are put in, the tree answers the same. Conditions: the slice of pairs reads as a list. -/
import Derived.Test.YtkgapieikgniiaaVTwo
import Derived.Test.YtkgapieikgniiaaVBld
set_option linter.unusedVariables false
set_option linter.unusedSimpArgs false
namespace Go.Proofs.Ytkgapieikgniiaa
open Go Go.RowKit Go.Maps
theorem two_builda {b0 : Nat} {w0 w : World} {Fa Fb : Nat → Prop} {a b : Nat} {Ta Tb : List Pnt} (h : Two b0 w0 w Fa a Ta Fb b Tb) :
    Calls Try.prog 22 #[.pointer (some ⟨a, 0, none⟩)] w fun e w' => e = .returned (.int .i64 0) ∧ ∃ F', Two b0 w0 w' F' a Ta Fb b Tb :=
  (t_build h.ta).mono fun e w' ⟨he, F', ht, hT⟩ => ⟨he, F', h.onA ht hT⟩
theorem rise_nodup {T : List Pnt} (h : Rise T) : T.Nodup := h.imp (fun h e => by rw [e] at h; omega)
theorem rise_ext {S T : List Pnt} (hS : Rise S) (hT : Rise T) (h : ∀ p, p ∈ S ↔ p ∈ T) : S = T :=
  rise_unique (hS.imp (fun h => by omega)) hT ((List.perm_ext_iff_of_nodup (rise_nodup hS) (rise_nodup hT)).2 h)
theorem rng_rise (b : Int) (V : Nat → List Int) (lo hi : Nat) : Rise (rng b V lo hi) := by
  unfold Rise rng
  rw [List.pairwise_map]
  refine (List.pairwise_lt_range' (s := lo) (n := hi - lo)).imp (fun h => ?_)
  show b + ((_ : Nat) : Int) < b + ((_ : Nat) : Int)
  omega
theorem putT_mem {x : Int} {l : List Int} {T : List Pnt} {p : Pnt} : p ∈ putT x l T ↔ p = (x, l) ∨ (p ∈ T ∧ p.1 ≠ x) := by
  rw [(putT_perm x l T).mem_iff, List.mem_cons]
  unfold delT
  rw [List.mem_filter, decide_eq_true_iff]
/-- Those whose numbers are in. -/
def selT (V : Nat → List Int) (n : Nat) (S : Int → Bool) : List Pnt := (rng 0 V 0 n).filter fun p => S p.1
theorem selT_put {V : Nat → List Int} {n k : Nat} {S : Int → Bool} (hk : k < n) : putT (k : Int) (V k) (selT V n S) = selT V n (fun x => S x || decide (x = (k : Int))) := by
  refine rise_ext (Rise.put ((rng_rise _ _ _ _).filter _) _ _) ((rng_rise _ _ _ _).filter _) (fun p => ?_)
  rw [putT_mem]
  unfold selT
  rw [List.mem_filter, List.mem_filter, Bool.or_eq_true, decide_eq_true_iff]
  constructor
  · rintro (rfl | ⟨⟨h1, h2⟩, _⟩)
    · refine ⟨List.mem_map.2 ⟨k, by rw [List.mem_range'_1]; omega, ?_⟩, .inr rfl⟩
      show ((0 : Int) + (k : Int), V k) = _
      rw [Int.zero_add]
    · exact ⟨h1, .inl h2⟩
  · rintro ⟨h1, h2⟩
    by_cases h : p.1 = (k : Int)
    · left
      obtain ⟨j, _, _, rfl⟩ := rng_mem h1
      have h : (0 : Int) + (j : Int) = (k : Int) := h
      have : j = k := by omega
      subst this
      rw [Int.zero_add]
    · exact .inr ⟨⟨h1, h2.resolve_right h⟩, h⟩
theorem selT_len (V : Nat → List Int) (n : Nat) (S : Int → Bool) : (selT V n S).length ≤ n := by
  refine Nat.le_trans (List.length_filter_le ..) ?_
  rw [rng_len]
  omega
/-- The numbers of the first i that are turned by s. -/
def inS (s n i : Nat) (x : Int) : Bool := (List.range i).any fun j => decide (x = (((j + s) % n : Nat) : Int))
theorem inS_succ (s n i : Nat) : inS s n (i + 1) = fun x => inS s n i x || decide (x = (((i + s) % n : Nat) : Int)) := by
  funext x
  unfold inS
  rw [List.range_succ, List.any_append]
  simp
theorem inS_zero (V : Nat → List Int) (s n m : Nat) : selT V m (inS s n 0) = [] := by
  unfold selT
  rw [List.filter_eq_nil_iff]
  intro p _
  simp [inS]
theorem turn_onto (s n x : Nat) (hx : x < n) : ∃ j, j < n ∧ (j + s) % n = x := by
  have hn : 0 < n := by omega
  have h1 := Nat.mod_add_div s n
  have h2 := Nat.mod_lt s hn
  rcases Nat.lt_or_ge x (s % n) with h | h
  · refine ⟨x + n - s % n, by omega, ?_⟩
    have e : x + n - s % n + s = x + n * (s / n + 1) := by rw [Nat.mul_add, Nat.mul_one]; omega
    rw [e, Nat.add_mul_mod_self_left, Nat.mod_eq_of_lt hx]
  · refine ⟨x - s % n, by omega, ?_⟩
    have e : x - s % n + s = x + n * (s / n) := by omega
    rw [e, Nat.add_mul_mod_self_left, Nat.mod_eq_of_lt hx]
theorem inS_all (V : Nat → List Int) (s n : Nat) : selT V n (inS s n n) = rng 0 V 0 n := by
  unfold selT
  rw [List.filter_eq_self]
  intro p hp
  obtain ⟨x, _, hx, rfl⟩ := rng_mem hp
  obtain ⟨j, hj, e⟩ := turn_onto s n x hx
  unfold inS
  rw [List.any_eq_true]
  refine ⟨j, by simpa using hj, decide_eq_true ?_⟩
  show (0 : Int) + (x : Int) = _
  rw [e, Int.zero_add]
set_option maxHeartbeats 8000000 in
set_option maxRecDepth 100000 in
theorem vptreeOrder_walk (A0 : Option Addr) (n0 c0 : Nat) (l0 : List (Int × Int)) (x y turn : Int) (w : World) (hR0 : Reads w w.heap.size 2 A0 n0 (twos l0)) (hm0 : n0 ≤ maxLen) (hxy : (-9223372036854775808 ≤ x ∧ x ≤ 9223372036854775807)) (hxy2 : (-9223372036854775808 ≤ y ∧ y ≤ 9223372036854775807)) :
    Calls Try.prog 6 #[.slice A0 n0 c0, .agg #[.int .i64 x, .int .i64 y], .int .i64 turn] w (Gives (.bool true) w) := by
  have HAW := Lib.hid awake_any
  have h1 := and65535 x
  have h2 := and65535 y
  have h3 := and255 turn
  obtain ⟨s, hs⟩ : ∃ s : Nat, (s : Int) = turn % 256 := ⟨(turn % 256).toNat, by omega⟩
  have hs256 : s < 256 := by omega
  rw [← hs] at h3
  clear hs
  have HCK := Lib.hid (ck_cut (m := 65536) (by omega) (by omega) (x, y))
  unfold cutP at HCK
  simp only at HCK
  generalize x % 65536 = X at *
  generalize y % 65536 = Y at *
  clear hxy hxy2
  have HL0 := Lib.hid hR0.twos_len
  have HR0 := Lib.hid hR0
  unfold maxLen at hm0
  clear hR0
  obtain ⟨W1, hW1⟩ : ∃ W1, W1 = w.alloc (.cells #[.int .i64 x, .int .i64 y] 44) := ⟨_, rfl⟩
  have b1 : Below w.heap.size w W1 := by rw [hW1]; exact (Below.refl _ w).alloc (Nat.le_refl _) _
  have s1 : W1.heap.size = w.heap.size + 1 := by rw [hW1]; simp
  have r1 : Row W1 w.heap.size 44 [.int .i64 x, .int .i64 y] := by rw [hW1]; exact Row.new w _ [.int .i64 x, .int .i64 y]
  have hnew := vnew_any 2 W1 (by omega) (by omega)
  have HW := Lib.hid hW1.symm
  have HB := Lib.hid (And.intro b1 (And.intro s1 r1))
  clear b1 s1 r1 hW1
  go_enter Try.func6, Try.ntmps6
  go_wp2_with fail
  rw [HW.out]
  refine hnew.mono ?_
  rintro e w2 ⟨F2, a, rfl, ht2, hF2, hb2⟩
  have hnew2 := vnew_any 2 w2 (by omega) (by omega)
  have HA2 := Lib.hid (And.intro ht2 (And.intro hF2 hb2))
  clear ht2 hF2 hb2 hnew
  go_wp2_with fail
  refine hnew2.mono ?_
  rintro e w3 ⟨F3, b, rfl, ht3, hF3, hb3⟩
  have hT3 : Two W1.heap.size W1 w3 F2 a [] F3 b [] :=
    ⟨HA2.out.1.below hb3, ht3, fun x h1 h2 => by have := HA2.out.1.lt x h1; have := hF3 x h2; omega, HA2.out.2.1, fun x h => Nat.le_trans HA2.out.2.2.size (hF3 x h), HA2.out.2.2.trans (hb3.mono HA2.out.2.2.size), Nat.le_trans HA2.out.2.2.size hb3.size⟩
  have HT3 := Lib.hid hT3
  have ea := tpeql_none a
  have eb := tpeql_none b
  clear hT3 ht3 hF3 hb3 hnew2 HA2
  by_cases h40 : 60 < n0
  · have hz : (60 : Int) < (n0 : Int) := by omega
    go_wp2_with fail
    refine (HAW.out _).mono ?_
    rintro e w4 ⟨rfl, hb4⟩
    go_wp2_with fail
    go_ret
    exact ⟨rfl, HB.out.1.trans (((HT3.out.under hb4).below).mono HB.out.1.size)⟩
  · have hz : ¬ (60 : Int) < (n0 : Int) := by omega
    obtain ⟨V0, hV0⟩ : ∃ V0 : Nat → List Int, V0 = fun j => cutP 65536 (l0.getD j (0, 0)) := ⟨_, rfl⟩
    have HV := Lib.hid hV0
    clear hV0
    go_wp2_with fail
    go_loopw [12] (fun vi wr => ∃ (i : Nat) (Fa Fb : Nat → Prop), i ≤ n0 ∧ vi = .int .i64 i ∧ Hid (Two W1.heap.size W1 wr Fa a (rng 0 V0 0 i) Fb b (selT V0 n0 (inS s n0 i)))) (fun vi _ => n0 - (intOf vi).toNat)
    case atStart => exact ⟨0, F2, F3, by omega, rfl, by rw [rng_nil, inS_zero]; exact HT3⟩
    case round =>
      obtain ⟨i, Fa, Fb, hi, rfl, HT⟩ := hrel
      clear HT3
      by_cases hlt : i < n0
      · have hltz : (i : Int) < (n0 : Int) := by omega
        have hn00 : ((n0 : Int) == 0) = false := by simp; omega
        have hwr : IntKind.i64.wrap ((i : Int) + (s : Int)) = (i : Int) + (s : Int) := by rw [IntKind.wrap_i64]; omega
        have hmod : ((i : Int) + (s : Int)).tmod (n0 : Int) = (((i + s) % n0 : Nat) : Int) := by
          rw [show ((i : Int) + (s : Int)) = ((i + s : Nat) : Int) by omega, Int.tmod_eq_emod_of_nonneg (by omega)]
          rfl
        have hmod2 : ((i : Int) + (s : Int)) % (n0 : Int) = (((i + s) % n0 : Nat) : Int) := by
          rw [show ((i : Int) + (s : Int)) = ((i + s : Nat) : Int) by omega]
          rfl
        have hkn : (i + s) % n0 < n0 := Nat.mod_lt _ (by omega)
        obtain ⟨k, hk⟩ : ∃ k, k = (i + s) % n0 := ⟨_, rfl⟩
        rw [← hk] at hmod hmod2 hkn
        have hkz : (k : Int) < (n0 : Int) := by omega
        have HK := Lib.hid hk
        clear hk
        obtain ⟨aea, hEa, heba, hela, y0a, y1a⟩ := (HR0.out.below (HB.out.1.trans (HT.out.below.mono HB.out.1.size))).two_at (k := i) hlt
        subst hEa
        have HKPa : Hid (∀ w' : World, Below w.heap.size w w' → w'.cell? (aea.add (i * 2)) = some (.int .i64 (l0.getD i (0, 0)).1) ∧ w'.cell? ⟨(aea.add (i * 2)).block, (aea.add (i * 2)).off + 1, none⟩ = some (.int .i64 (l0.getD i (0, 0)).2)) := Lib.hid (fun w' hw' => by
          obtain ⟨ae', e', _, _, q0, q1⟩ := (HR0.out.below hw').two_at (k := i) hlt
          injection e' with e'
          subst e'
          exact ⟨q0, q1⟩)
        have hv1a : V0 i = cutP 65536 (l0.getD i (0, 0)) := by rw [HV.out]
        have hb0a := and65535 (l0.getD i (0, 0)).1
        have hb1a := and65535 (l0.getD i (0, 0)).2
        have hcka : ck (cutP 65536 (l0.getD i (0, 0))) 2 = 0 := ck_cut (by omega) (by omega) _
        unfold cutP at hv1a hcka
        generalize (l0.getD i (0, 0)).1 % 65536 = Y0a at *
        generalize (l0.getD i (0, 0)).2 % 65536 = Y1a at *
        generalize (l0.getD i (0, 0)).1 = U0a at *
        generalize (l0.getD i (0, 0)).2 = U1a at *
        have cl5a : (aea.add (i * 2)).block < wr.heap.size := lt_of_cell y0a
        have M6a := HT.out.under ((Below.refl _ wr).alloc (Nat.le_refl _) (.cells #[.int .i64 Y0a, .int .i64 Y1a] 3))
        have M7a : Two W1.heap.size W1 ((wr.alloc (.cells #[.int .i64 Y0a, .int .i64 Y1a] 3)).drew) _ a _ _ b _ := M6a.under (below_drewN (Below.refl _ _) 1)
        have hputa := two_puta (x := (i : Int)) (c := 2) (A := some ⟨wr.heap.size, 0, none⟩) (n := 2) (l := [Y0a, Y1a]) M7a (WalkArith.wf_i64 (by omega)) ((news_int wr [Y0a, Y1a] (by simp)).drew) (by show wr.heap.size + 1 ≤ (wr.alloc _).heap.size; simp) (by unfold maxLen; simp) (fun ad e hF => by
          injection e with e
          subst e
          exact absurd (HT.out.ta.lt _ hF) (Nat.lt_irrefl _)) hcka (by rw [rng_len]; omega)
        have HOUTa := Lib.hid (show putT (i : Int) [Y0a, Y1a] (rng 0 V0 0 i) = rng 0 V0 0 (i + 1) from by
          rw [putT_end (fun p hp => by
            obtain ⟨j, _, h2, rfl⟩ := rng_mem hp
            show (0 : Int) + (j : Int) < (i : Int)
            omega), rng_snoc (Nat.zero_le i), hv1a, Int.zero_add])
        clear M6a M7a heba hela hv1a hcka
        go_wp2_with fail
        go_region_held3 (fun w' => w'.cell? (aea.add (i * 2)) = some (.int .i64 U0a) ∧ w'.cell? ⟨(aea.add (i * 2)).block, (aea.add (i * 2)).off + 1, none⟩ = some (.int .i64 U1a)) (first | exact ⟨y0a, y1a⟩ | exact HS8a.out | go_keep) ((go_at_call 19; with_reducible refine hputa.mono ?_; rintro e w8a ⟨rfl, F8a, ht8a, _⟩; rw [HOUTa.out] at ht8a; have HT8a := Lib.hid ht8a; have HS8a := Lib.hid (HKPa.out w8a (HB.out.1.trans (ht8a.below.mono HB.out.1.size))); clear ht8a))
        clear hputa y0a y1a
        obtain ⟨aex, hEb, hebb, helb, y0b, y1b⟩ := (HR0.out.below (HB.out.1.trans (HT8a.out.below.mono HB.out.1.size))).two_at (k := k) hkn
        injection hEb with hEb
        subst hEb
        have HKPb : Hid (∀ w' : World, Below w.heap.size w w' → w'.cell? (aea.add (k * 2)) = some (.int .i64 (l0.getD k (0, 0)).1) ∧ w'.cell? ⟨(aea.add (k * 2)).block, (aea.add (k * 2)).off + 1, none⟩ = some (.int .i64 (l0.getD k (0, 0)).2)) := Lib.hid (fun w' hw' => by
          obtain ⟨ae', e', _, _, q0, q1⟩ := (HR0.out.below hw').two_at (k := k) hkn
          injection e' with e'
          subst e'
          exact ⟨q0, q1⟩)
        have hv1b : V0 k = cutP 65536 (l0.getD k (0, 0)) := by rw [HV.out]
        have hb0b := and65535 (l0.getD k (0, 0)).1
        have hb1b := and65535 (l0.getD k (0, 0)).2
        have hckb : ck (cutP 65536 (l0.getD k (0, 0))) 2 = 0 := ck_cut (by omega) (by omega) _
        unfold cutP at hv1b hckb
        generalize (l0.getD k (0, 0)).1 % 65536 = Y0b at *
        generalize (l0.getD k (0, 0)).2 % 65536 = Y1b at *
        generalize (l0.getD k (0, 0)).1 = U0b at *
        generalize (l0.getD k (0, 0)).2 = U1b at *
        have cl5b : (aea.add (k * 2)).block < w8a.heap.size := lt_of_cell y0b
        have M6b := HT8a.out.under ((Below.refl _ w8a).alloc (Nat.le_refl _) (.cells #[.int .i64 Y0b, .int .i64 Y1b] 3))
        have M7b : Two W1.heap.size W1 ((w8a.alloc (.cells #[.int .i64 Y0b, .int .i64 Y1b] 3)).drew) _ a _ _ b _ := M6b.under (below_drewN (Below.refl _ _) 1)
        have hputb := two_putb (x := (k : Int)) (c := 2) (A := some ⟨w8a.heap.size, 0, none⟩) (n := 2) (l := [Y0b, Y1b]) M7b (WalkArith.wf_i64 (by omega)) ((news_int w8a [Y0b, Y1b] (by simp)).drew) (by show w8a.heap.size + 1 ≤ (w8a.alloc _).heap.size; simp) (by unfold maxLen; simp) (fun ad e hF => by
          injection e with e
          subst e
          exact absurd (HT8a.out.tb.lt _ hF) (Nat.lt_irrefl _)) hckb (by have := selT_len V0 n0 (inS s n0 i); omega)
        have HOUTb := Lib.hid (show putT (k : Int) [Y0b, Y1b] (selT V0 n0 (inS s n0 i)) = selT V0 n0 (inS s n0 (i + 1)) from by
          rw [← hv1b, selT_put hkn, inS_succ, HK.out])
        clear M6b M7b hebb helb hv1b hckb
        go_wp2_with fail
        go_region_held3 (fun w' => w'.cell? (aea.add (k * 2)) = some (.int .i64 U0b) ∧ w'.cell? ⟨(aea.add (k * 2)).block, (aea.add (k * 2)).off + 1, none⟩ = some (.int .i64 U1b)) (first | exact ⟨y0b, y1b⟩ | exact HS8b.out | go_keep) ((go_at_call 19; with_reducible refine hputb.mono ?_; rintro e w8b ⟨rfl, F8b, ht8b, _⟩; rw [HOUTb.out] at ht8b; have HT8b := Lib.hid ht8b; have HS8b := Lib.hid (HKPb.out w8b (HB.out.1.trans (ht8b.below.mono HB.out.1.size))); clear ht8b))
        clear hputb y0b y1b
        have hbl := two_builda HT8b.out
        go_wp2_with fail
        · refine hbl.mono ?_
          rintro e w9 ⟨rfl, F9, M9⟩
          have HT9 := Lib.hid M9
          clear M9 hbl
          go_wp2_with fail
          go_roundw
          case rel => exact ⟨i + 1, _, _, by omega, by go_num, HT9⟩
          case measure => simp [intOf]; omega
        · go_roundw
          case rel => exact ⟨i + 1, _, _, by omega, by go_num, HT8b⟩
          case measure => simp [intOf]; omega
      · have hltz : ¬ (i : Int) < (n0 : Int) := by omega
        have hin : i = n0 := by omega
        have HT9 : Hid (Two W1.heap.size W1 wr Fa a (rng 0 V0 0 n0) Fb b (rng 0 V0 0 n0)) := Lib.hid (by
          have := HT.out
          rwa [hin, inS_all] at this)
        clear HT hin
        generalize rng 0 V0 0 n0 = T at *
        have rw9 : Row wr w.heap.size 44 [.int .i64 x, .int .i64 y] := HB.out.2.2.keep (HT9.out.below.block _ (by have := HB.out.2.1; omega))
        have z0 := rw9.cell (j := 0) rfl
        have z1 := rw9.cell (j := 1) rfl
        have zl := rw9.lt
        have M9 := HT9.out.under ((Below.refl _ wr).alloc (Nat.le_refl _) (.cells #[.int .i64 X, .int .i64 Y] 3))
        have hv9 := news_int wr [X, Y] (by simp)
        have htp := t_top M9.ta (c := 2) (C := wr.heap.size + 1) (n := 2) (A := some ⟨wr.heap.size, 0, none⟩) (vec := [X, Y]) hv9 (by simp) (by unfold maxLen; omega) 1099511627776 HCK.out (k := 20) (by omega) (by omega)
        have HM9 := Lib.hid (And.intro M9 hv9)
        clear rw9 M9 hv9 HT9
        go_wp2_with fail
        refine htp.mono ?_
        rintro e w10 ⟨A10, m10, rfl, hR10, hm10, hb10⟩
        have M10 := HM9.out.1.under hb10
        have hv10 : Reads w10 (wr.heap.size + 1) 1 (some ⟨wr.heap.size, 0, none⟩) 2 (ints [X, Y]) := HM9.out.2.below (hb10.mono (by simp))
        have htp2 := t_top M10.tb (c := 2) hv10 (by have := hb10.size; simp at this; omega) (by unfold maxLen; omega) 1099511627776 HCK.out (k := 20) (by omega) (by omega)
        have HM10 := Lib.hid (And.intro M10 (And.intro hR10 hm10))
        clear M10 hv10 htp hR10 hm10 HM9 hb10
        go_wp2_with fail
        refine htp2.mono ?_
        rintro e w11 ⟨A11, m11, rfl, hR11, hm11, hb11⟩
        have M11 := HM10.out.1.under hb11
        have hR10' := HM10.out.2.1.below hb11
        generalize topH T [X, Y] 20 1099511627776 = H at *
        have hsm := same_any A10 A11 m10 m11 m10 m11 _ _ H H w11 hR10' hR11 (by have := HM10.out.2.2; unfold maxLen; omega) (by unfold maxLen; omega)
        rw [decide_eq_true rfl] at hsm
        have HM11 := Lib.hid M11
        clear M11 hR10' htp2 hR11 hb11 HM10
        go_wp2_with fail
        refine hsm.mono ?_
        rintro e w12 ⟨rfl, q12, rfl⟩
        have M12 := HM11.out.under (below_drewN (Below.refl _ w11) q12)
        have hpa := t_pts M12.ta
        have HM12 := Lib.hid M12
        generalize w11.drewN q12 = w12 at *
        clear M12 hsm HM11
        go_wp2_with fail
        refine hpa.mono ?_
        rintro e w13 ⟨A13, m13, c13, L13, rfl, P13, hm13, hL13, hb13⟩
        have M13 := HM12.out.under hb13
        have hpb := t_pts M13.tb
        have HM13 := Lib.hid (And.intro M13 (And.intro P13 hL13))
        clear M13 P13 hL13 hb13 hpa HM12
        go_wp2_with fail
        refine hpb.mono ?_
        rintro e w14 ⟨A14, m14, c14, L14, rfl, P14, hm14, hL14, hb14⟩
        have M14 := HM13.out.1.under hb14
        have hsp := q8same_any A13 A14 m13 m14 c13 c14 _ _ L13 L14 w14 (HM13.out.2.1.below hb14) P14 hb14.size (Nat.le_refl _) (by omega) (HM13.out.2.2.trans hL14.symm)
        have HM14 := Lib.hid M14
        clear M14 P14 hL14 hb14 hpb HM13
        go_wp2_with fail
        refine hsp.mono ?_
        rintro e w15 ⟨rfl, q15, rfl⟩
        go_wp2_with fail
        refine (HAW.out _).mono ?_
        rintro e w16 ⟨rfl, hb16⟩
        go_wp2_with fail
        go_ret
        exact ⟨rfl, HB.out.1.trans ((HM14.out.under ((below_drewN (Below.refl _ w14) q15).trans hb16)).below.mono HB.out.1.size)⟩
end Go.Proofs.Ytkgapieikgniiaa
