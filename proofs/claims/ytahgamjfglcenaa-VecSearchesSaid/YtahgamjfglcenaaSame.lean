/- What Same and Top of the document's answers return, and tops of the laws. Conditions: the slices read as lists. -/
import Derived.Test.YtahgamjfglcenaaRTop
import Derived.Laws.StructEq
set_option linter.unusedVariables false
set_option linter.unusedSimpArgs false
namespace Go.Proofs.Ytahgamjfglcenaa
open Go Go.RowKit
theorem neq_hit (x y : Hit) (w : World) : (binOp .neq 37 (.agg #[.int .i64 x.1, .int .i64 x.2]) (.agg #[.int .i64 y.1, .int .i64 y.2])).run Try.prog w = .ok (.bool (decide (x ≠ y))) w := by
  have u3 := Try.underlying3
  have a3 := Try.isAgg3
  have z3 := Try.sizeOf3
  have hS : Try.prog.underlying 37 = some (.struct (Try.prog.fieldsOf 37)) := by kernel_rfl
  have hp : Try.prog.stoodInHeld 37 = false := by kernel_rfl
  rw [run_neq_struct, show (10000 : Nat) = 9999 + 1 from rfl, run_equalIn_agg w 9999 37 _ _ hS hp]
  simp only [Program.fieldsOf, Try.underlying37]
  go_simp
  by_cases h1 : x.fst = y.fst <;> by_cases h2 : x.snd = y.snd <;> simp [h1, h2, Prod.ext_iff]
theorem guard37 : Try.prog.eqGuardType Try.prog.depth 37 = false := by kernel_rfl
theorem take_next_hit {x y : List Hit} {k : Nat} (h : x.take k = y.take k) (hx : k < x.length) (hy : k < y.length) (e : x.getD k (0, 0) = y.getD k (0, 0)) : x.take (k + 1) = y.take (k + 1) := by
  rw [take_hit x k hx, take_hit y k hy, h, e]
def SaysH (v : Value) (w : World) (e : Ending) (w' : World) : Prop := e = .returned v ∧ ∃ q, w' = w.drewN q
set_option maxHeartbeats 2000000 in
theorem same_any (A A' : Option Addr) (n m c c' B B' : Nat) (x y : List Hit) (w : World) (hx : Reads w B 2 A n (hits x)) (hy : Reads w B' 2 A' m (hits y)) (hm : n ≤ maxLen) (hm' : m ≤ maxLen) :
    Calls Try.prog 20 #[.slice A n c, .slice A' m c'] w (SaysH (.bool (decide (x = y))) w) := by
  have lx := hx.hits_len
  have ly := hy.hits_len
  unfold maxLen at hm hm'
  have hg := guard37
  by_cases hnm : n = m
  · subst hnm
    have LX := Lib.hid lx
    have LY := Lib.hid ly
    have lx' : x.length ≤ n := by omega
    have ly' : y.length ≤ n := by omega
    clear lx ly
    go_enter Try.func20, Try.ntmps20
    go_wp2_with fail
    go_loopw [5] (fun i wr => ∃ k q : Nat, k ≤ n ∧ i = .int .i64 k ∧ wr = w.drewN q ∧ Hid (x.take k = y.take k)) (fun i _ => n - (intOf i).toNat)
    case atStart => exact ⟨0, 0, Nat.zero_le _, rfl, rfl, Lib.hid rfl⟩
    case round =>
      obtain ⟨k, q, hk, rfl, rfl, HT⟩ := hrel
      by_cases hlt' : k < n
      · obtain ⟨ad, rfl, _, hkx, c0, c1⟩ := hx.hit_at hlt'
        obtain ⟨ad', rfl, _, hky, d0, d1⟩ := hy.hit_at hlt'
        have hltz : (k : Int) < (n : Int) := by omega
        have HN := Lib.hid (take_next_hit HT.out hkx hky)
        have HX := Lib.hid (show x.getD k (0, 0) ≠ y.getD k (0, 0) → x ≠ y from fun h e => h (by rw [e]))
        have hneq := neq_hit (x.getD k (0, 0)) (y.getD k (0, 0))
        generalize x.getD k (0, 0) = X at *
        generalize y.getD k (0, 0) = Y at *
        by_cases hXY : X = Y
        · have HN2 := Lib.hid (HN.out hXY)
          have e : decide (X ≠ Y) = false := decide_eq_false (by simp [hXY])
          simp only [e] at hneq
          clear hXY e
          go_wp2_with fail
          go_quiet (fail)
          go_wp2_with fail
          go_roundw
          case rel => exact ⟨k + 1, _, by omega, by go_num, rfl, HN2⟩
          case measure => simp [intOf]; omega
        · have hne : decide (x = y) = false := decide_eq_false (HX.out hXY)
          have HNE := Lib.hid hne
          have e : decide (X ≠ Y) = true := decide_eq_true hXY
          simp only [e] at hneq
          clear hXY e hne
          go_wp2_with fail
          go_quiet (fail)
          go_wp2_with fail
          go_ret
          exact ⟨ret_bool HNE.out.symm, _, World.drewN_drewN ..⟩
      · have e : x = y := by
          have := HT.out
          rwa [List.take_of_length_le (by omega), List.take_of_length_le (by omega)] at this
        have HE := Lib.hid (decide_eq_true e)
        clear e
        go_wp2_with fail
        go_ret
        exact ⟨ret_bool HE.out.symm, _, rfl⟩
  · have hne : decide (x = y) = false := decide_eq_false (by rintro rfl; omega)
    have hb : ((n : Int) != (m : Int)) = true := by rw [bne_iff_ne]; omega
    rw [hne]
    clear lx ly
    go_enter Try.func20, Try.ntmps20
    go_wp2_with fail
    go_ret
    exact ⟨rfl, 0, rfl⟩
def RTop2Post (S : List Hit) (k : Nat) (w : World) (e : Ending) (w' : World) : Prop :=
  ∃ A m c, e = .returned (.tuple #[.slice A m c, .int .i64 0]) ∧ Reads w' w'.heap.size 2 A m (hits (S.take k)) ∧ m ≤ maxLen ∧ Below w.heap.size w w'
set_option maxHeartbeats 1000000 in
theorem rtop2_any (A : Option Addr) (n c : Nat) (l S : List Hit) (k : Nat) (w : World) (hx : Reads w w.heap.size 2 A n (hits l)) (hT : TopR l S) (hn : n ≤ 1000000) (hk : k ≤ 64) : Calls Try.prog 19 #[.slice A n c, .int .i64 k] w (RTop2Post S k w) := by
  have HR := Lib.hid (rtop_any A n c l S k w hx hT hn hk)
  have hk1 : ¬ (k : Int) < 0 := by omega
  have hk2 : ¬ (64 : Int) < (k : Int) := by omega
  clear hx hT
  go_enter Try.func19, Try.ntmps19
  go_wp2_with fail
  refine HR.out.mono ?_
  rintro e w1 ⟨v, m, rfl, hown, hb⟩
  obtain ⟨A1, c1, rfl, h1, h2⟩ := own_shape hown
  have HF := Lib.hid (And.intro (Reads.of_own hown) (And.intro (Nat.le_trans h1 h2) hb))
  clear hown hb h1 h2
  go_wp2_with fail
  go_ret2
  exact ⟨A1, m, c1, rfl, HF.out.1, HF.out.2.1, HF.out.2.2⟩
set_option maxHeartbeats 1000000 in
theorem rtop2_no (A : Option Addr) (n c : Nat) (k : Int) (w : World) (hk : k < 0 ∨ 64 < k) : Calls Try.prog 19 #[.slice A n c, .int .i64 k] w fun e w' => e = .returned (.tuple #[.slice none 0 0, .int .i64 51]) ∧ w' = w := by
  by_cases h : k < 0
  · go_enter Try.func19, Try.ntmps19
    go_wp2_with fail
    go_ret2
    exact ⟨rfl, rfl⟩
  · have h2 : 64 < k := by omega
    go_enter Try.func19, Try.ntmps19
    go_wp2_with fail
    go_ret2
    exact ⟨rfl, rfl⟩
theorem news_hit (W : World) (l : List Hit) (hl : l ≠ []) : Reads (W.alloc (.cells (hits l).toArray 37)) (W.heap.size + 1) 2 (some ⟨W.heap.size, 0, none⟩) l.length (hits l) := by
  refine ⟨by rw [hits_len], fun _ => ⟨_, rfl, by simp, fun j u hj => ?_⟩⟩
  have := news_cells W (hits l).toArray 37 j u (by simpa using hj)
  exact this
theorem known_best (h : Hit) : Best [(3, 2), (1, 2), (3, 1)] h ↔ h ∈ [((3, 1) : Hit), (1, 2)] := by
  have n1 : hlt (3, 2) (3, 1) = false := by decide
  have n2 : hlt (3, 1) (3, 1) = false := by decide
  have n3 : hlt (1, 2) (1, 2) = false := by decide
  have n4 : hlt (3, 1) (3, 2) = true := by decide
  constructor
  · rintro ⟨hm, hb⟩
    simp only [List.mem_cons, List.not_mem_nil, or_false] at hm
    rcases hm with rfl | rfl | rfl
    · have := hb (3, 1) (by simp) rfl
      rw [n4] at this
      cases this
    · simp
    · simp
  · intro hm
    simp only [List.mem_cons, List.not_mem_nil, or_false] at hm
    rcases hm with rfl | rfl
    · refine ⟨by simp, fun h' hm he => ?_⟩
      simp only [List.mem_cons, List.not_mem_nil, or_false] at hm
      rcases hm with rfl | rfl | rfl
      · exact n1
      · simp at he
      · exact n2
    · refine ⟨by simp, fun h' hm he => ?_⟩
      simp only [List.mem_cons, List.not_mem_nil, or_false] at hm
      rcases hm with rfl | rfl | rfl
      · simp at he
      · exact n3
      · simp at he
theorem known_top : TopR [(3, 2), (1, 2), (3, 1)] [(3, 1), (1, 2)] := ⟨by
  refine List.pairwise_cons.2 ⟨fun a ha => ?_, List.pairwise_singleton _ _⟩
  simp only [List.mem_singleton] at ha
  subst ha
  decide, fun h => (known_best h).symm⟩
theorem known_wf : WF [(3, 2), (1, 2), (3, 1)] := by
  intro h hm
  simp only [List.mem_cons, List.not_mem_nil, or_false] at hm
  rcases hm with rfl | rfl | rfl <;> decide
def TopsPost (w : World) (e : Ending) (w' : World) : Prop :=
  ∃ A m c, e = .returned (.tuple #[.slice A m c, .int .i64 0]) ∧ Reads w' w'.heap.size 2 A m (hits [(3, 1), (1, 2)]) ∧ m ≤ maxLen ∧ Below w.heap.size w w'
theorem tops_top (w : World) : Calls Try.prog 18 #[.slice (some ⟨w.heap.size, 0, none⟩) 3 3, .int .i64 2] (w.alloc (.cells #[.int .i64 3, .int .i64 2, .int .i64 1, .int .i64 2, .int .i64 3, .int .i64 1] 37)) (TopsPost w) := by
  have hb0 : Below w.heap.size w (w.alloc (.cells #[.int .i64 3, .int .i64 2, .int .i64 1, .int .i64 2, .int .i64 3, .int .i64 1] 37)) := (Below.refl _ w).alloc (Nat.le_refl _) _
  have h := top_any (some ⟨w.heap.size, 0, none⟩) 3 3 [(3, 2), (1, 2), (3, 1)] 2 _ ((news_hit w [(3, 2), (1, 2), (3, 1)] (by simp)).more (by simp [hits])) known_wf (by omega) (by omega)
  refine h.mono ?_
  rintro e w' ⟨A, m, c, S, rfl, hT, hR, h1, h2, hb⟩
  rw [hT.unique known_top] at hR
  exact ⟨A, m, c, rfl, hR, by omega, hb0.trans (hb.mono (by simp))⟩
set_option maxHeartbeats 2000000 in
theorem tops_any (w : World) : Calls Try.prog 17 #[] w (Gives (.bool true) w) := by
  go_enter Try.func17, Try.ntmps17
  go_wp2_with fail
  refine (tops_top w).mono ?_
  rintro e w1 ⟨A, m, c, rfl, hR, hm, hb⟩
  have hb1 : Below w1.heap.size w1 (w1.alloc (.cells #[.int .i64 3, .int .i64 1, .int .i64 1, .int .i64 2] 37)) := (Below.refl _ w1).alloc (Nat.le_refl _) _
  have hs := same_any A (some ⟨w1.heap.size, 0, none⟩) m 2 c 2 _ _ [(3, 1), (1, 2)] [(3, 1), (1, 2)] _ (hR.below hb1) (news_hit w1 [(3, 1), (1, 2)] (by simp)) hm (by decide)
  rw [decide_eq_true rfl] at hs
  have HS := Lib.hid hs
  have HB := Lib.hid (hb.trans (hb1.mono hb.size))
  clear hs hR hb hb1
  go_wp2_with fail
  refine HS.out.mono ?_
  rintro e w2 ⟨rfl, q, rfl⟩
  have HF := Lib.hid (below_drewN HB.out q)
  go_wp2_with fail
  go_ret
  exact ⟨rfl, HF.out⟩
end Go.Proofs.Ytahgamjfglcenaa
