/- Two trees of a call's own; points numbered one behind the other. Conditions: none. -/
import Derived.Test.YtkgapieikgniiaaVRSame
import Derived.Test.YtkgapieikgniiaaVLawM
import Derived.Deep.RegionHeld3
set_option linter.unusedVariables false
set_option linter.unusedSimpArgs false
namespace Go.Proofs.Ytkgapieikgniiaa
open Go Go.RowKit Go.Maps
structure Two (b0 : Nat) (w0 w : World) (Fa : Nat → Prop) (a : Nat) (Ta : List Pnt) (Fb : Nat → Prop) (b : Nat) (Tb : List Pnt) : Prop where
  ta : Tree w Fa a 2 Ta
  tb : Tree w Fb b 2 Tb
  apart : ∀ x, Fa x → ¬ Fb x
  upa : ∀ x, Fa x → b0 ≤ x
  upb : ∀ x, Fb x → b0 ≤ x
  below : Below b0 w0 w
  le : b0 ≤ w.heap.size
section
variable {b0 : Nat} {w0 w w' : World} {Fa Fb F' : Nat → Prop} {a b : Nat} {Ta Tb T' : List Pnt}
theorem Two.onA (h : Two b0 w0 w Fa a Ta Fb b Tb) (ht : Tree w' F' a 2 T') (k : Turn Fa w F' w') : Two b0 w0 w' F' a T' Fb b Tb :=
  ⟨ht, h.tb.turn k (fun x hx hx' => h.apart x hx' hx), fun x hx hx' => (k.foot x hx).elim (fun hf => h.apart x hf hx') (fun hf => by have := h.tb.lt x hx'; omega),
   fun x hx => (k.foot x hx).elim (h.upa x) (Nat.le_trans h.le), h.upb, h.below.trans (k.down h.upa h.le), Nat.le_trans h.le k.size⟩
theorem Two.onB (h : Two b0 w0 w Fa a Ta Fb b Tb) (ht : Tree w' F' b 2 T') (k : Turn Fb w F' w') : Two b0 w0 w' Fa a Ta F' b T' :=
  ⟨h.ta.turn k (fun x hx hx' => h.apart x hx hx'), ht, fun x hx hx' => (k.foot x hx').elim (fun hf => h.apart x hx hf) (fun hf => by have := h.ta.lt x hx; omega),
   h.upa, fun x hx => (k.foot x hx).elim (h.upb x) (Nat.le_trans h.le), h.below.trans (k.down h.upb h.le), Nat.le_trans h.le k.size⟩
theorem Two.under (h : Two b0 w0 w Fa a Ta Fb b Tb) (hb : Below w.heap.size w w') : Two b0 w0 w' Fa a Ta Fb b Tb :=
  ⟨h.ta.below hb, h.tb.below hb, h.apart, h.upa, h.upb, h.below.trans (hb.mono h.le), Nat.le_trans h.le hb.size⟩
/-- Put of a point that is one, with room. -/
theorem two_puta (h : Two b0 w0 w Fa a Ta Fb b Tb) {x : Int} {A : Option Addr} {n c C : Nat} {l : List Int} (hx : (Lit.int .i64 x).wf = true) (hR : Reads w C 1 A n (ints l)) (hC : C ≤ w.heap.size) (hn : n ≤ maxLen) (hA : ∀ ad, A = some ad → ¬ Fa ad.block) (hk : ck l 2 = 0) (hf : Ta.length < 512) :
    Calls Try.prog 19 #[.pointer (some ⟨a, 0, none⟩), .agg #[.int .i64 x, .slice A n c]] w fun e w' => e = .returned (.tuple #[.bool (hasT x Ta), .int .i64 0]) ∧ ∃ F', Two b0 w0 w' F' a (putT x l Ta) Fb b Tb ∧ Turn Fa w F' w' :=
  (t_put h.ta hx hR hC hn hA hk (.inr hf)).mono fun e w' ⟨he, F', ht, hT⟩ => ⟨he, F', h.onA ht hT, hT⟩
theorem two_putb (h : Two b0 w0 w Fa a Ta Fb b Tb) {x : Int} {A : Option Addr} {n c C : Nat} {l : List Int} (hx : (Lit.int .i64 x).wf = true) (hR : Reads w C 1 A n (ints l)) (hC : C ≤ w.heap.size) (hn : n ≤ maxLen) (hA : ∀ ad, A = some ad → ¬ Fb ad.block) (hk : ck l 2 = 0) (hf : Tb.length < 512) :
    Calls Try.prog 19 #[.pointer (some ⟨b, 0, none⟩), .agg #[.int .i64 x, .slice A n c]] w fun e w' => e = .returned (.tuple #[.bool (hasT x Tb), .int .i64 0]) ∧ ∃ F', Two b0 w0 w' Fa a Ta F' b (putT x l Tb) ∧ Turn Fb w F' w' :=
  (t_put h.tb hx hR hC hn hA hk (.inr hf)).mono fun e w' ⟨he, F', ht, hT⟩ => ⟨he, F', h.onB ht hT, hT⟩
theorem two_dropb (h : Two b0 w0 w Fa a Ta Fb b Tb) {x : Int} (hx : (Lit.int .i64 x).wf = true) :
    Calls Try.prog 25 #[.pointer (some ⟨b, 0, none⟩), .int .i64 x] w fun e w' => e = .returned (.bool (hasT x Tb)) ∧ Two b0 w0 w' Fa a Ta Fb b (delT x Tb) :=
  (t_drop h.tb hx).mono fun e w' ⟨he, ht, hT⟩ => ⟨he, h.onB ht hT⟩
end
/-- A pair's numbers, cut to so many. -/
def cutP (m : Int) (p : Int × Int) : List Int := [p.1 % m, p.2 % m]
theorem ck_cut {m : Int} (hm : 0 < m) (h2 : m ≤ 65536) (p : Int × Int) : ck (cutP m p) 2 = 0 := by
  rw [ck_zero]
  refine ⟨(okV_iff _).2 ⟨by simp [cutP], by simp [cutP], fun z hz => ?_⟩, rfl⟩
  have h1 := Int.emod_nonneg p.1 (show m ≠ 0 by omega)
  have h3 := Int.emod_lt_of_pos p.1 hm
  have h4 := Int.emod_nonneg p.2 (show m ≠ 0 by omega)
  have h5 := Int.emod_lt_of_pos p.2 hm
  simp only [cutP, List.mem_cons, List.not_mem_nil, or_false] at hz
  rcases hz with rfl | rfl <;> omega
/-- Points numbered from b on, of those from lo to hi. -/
def rng (b : Int) (V : Nat → List Int) (lo hi : Nat) : List Pnt := (List.range' lo (hi - lo)).map fun (j : Nat) => (b + (j : Int), V j)
theorem rng_len (b : Int) (V : Nat → List Int) (lo hi : Nat) : (rng b V lo hi).length = hi - lo := by simp [rng]
theorem rng_nil (b : Int) (V : Nat → List Int) (lo : Nat) : rng b V lo lo = [] := by simp [rng]
theorem rng_mem {b : Int} {V : Nat → List Int} {lo hi : Nat} {p : Pnt} (h : p ∈ rng b V lo hi) : ∃ j : Nat, lo ≤ j ∧ j < hi ∧ p = (b + (j : Int), V j) := by
  obtain ⟨j, hj, rfl⟩ := List.mem_map.1 h
  rw [List.mem_range'_1] at hj
  exact ⟨j, hj.1, by omega, rfl⟩
theorem rng_snoc {b : Int} {V : Nat → List Int} {lo hi : Nat} (h : lo ≤ hi) : rng b V lo (hi + 1) = rng b V lo hi ++ [(b + (hi : Int), V hi)] := by
  unfold rng
  rw [show hi + 1 - lo = (hi - lo) + 1 by omega, List.range'_concat, List.map_append]
  simp only [List.map_cons, List.map_nil, Nat.one_mul, show lo + (hi - lo) = hi by omega]
theorem rng_cons {b : Int} {V : Nat → List Int} {lo hi : Nat} (h : lo < hi) : rng b V lo hi = (b + (lo : Int), V lo) :: rng b V (lo + 1) hi := by
  unfold rng
  rw [show hi - lo = (hi - (lo + 1)) + 1 by omega, List.range'_succ]
  rfl
theorem putT_mid {x : Int} {l : List Int} {S G : List Pnt} (h1 : ∀ p ∈ S, p.1 < x) (h2 : ∀ p ∈ G, x < p.1) : putT x l (S ++ G) = S ++ (x, l) :: G := by
  have e1 : (S.filter fun p => decide (p.1 < x)) = S := List.filter_eq_self.2 (fun p hp => decide_eq_true (h1 p hp))
  have e2 : (G.filter fun p => decide (p.1 < x)) = [] := List.filter_eq_nil_iff.2 (fun p hp => by have := h2 p hp; simp; omega)
  have e3 : (S.filter fun p => decide (x < p.1)) = [] := List.filter_eq_nil_iff.2 (fun p hp => by have := h1 p hp; simp; omega)
  have e4 : (G.filter fun p => decide (x < p.1)) = G := List.filter_eq_self.2 (fun p hp => decide_eq_true (h2 p hp))
  unfold putT
  rw [List.filter_append, List.filter_append, e1, e2, e3, e4, List.append_nil, List.nil_append]
theorem putT_end {x : Int} {l : List Int} {S : List Pnt} (h1 : ∀ p ∈ S, p.1 < x) : putT x l S = S ++ [(x, l)] := by
  have := putT_mid (l := l) (G := []) h1 (fun p hp => by simp at hp)
  simpa using this
theorem delT_mid {x : Int} {l : List Int} {S G : List Pnt} (h1 : ∀ p ∈ S, p.1 < x) (h2 : ∀ p ∈ G, x < p.1) : delT x (S ++ (x, l) :: G) = S ++ G := by
  unfold delT
  rw [List.filter_append, List.filter_cons, if_neg (by simp), List.filter_eq_self.2 (fun p hp => decide_eq_true (by have := h1 p hp; omega)), List.filter_eq_self.2 (fun p hp => decide_eq_true (by have := h2 p hp; omega))]
theorem hasT_mid (x : Int) (l : List Int) (S G : List Pnt) : hasT x (S ++ (x, l) :: G) = true := (hasT_iff _ _).2 ⟨(x, l), by simp, rfl⟩
def two1 (p : Int × Int) : List Value := [.int .i64 p.1, .int .i64 p.2]
theorem Reads.two_at {w : World} {B n k : Nat} {A : Option Addr} {l : List (Int × Int)} (h : Reads w B 2 A n (twos l)) (hk : k < n) : ∃ ad, A = some ad ∧ ad.block < B ∧ k < l.length ∧
    w.cell? (ad.add (k * 2)) = some (.int .i64 (l.getD k (0, 0)).1) ∧ w.cell? ⟨(ad.add (k * 2)).block, (ad.add (k * 2)).off + 1, none⟩ = some (.int .i64 (l.getD k (0, 0)).2) := by
  have e : twos l = hits l := rfl
  rw [e] at h
  exact h.hit_at hk
theorem Reads.twos_len {w : World} {B n : Nat} {A : Option Addr} {l : List (Int × Int)} (h : Reads w B 2 A n (twos l)) : n = l.length := Reads.hits_len (l := l) h
theorem tpeql_none (d : Nat) (w : World) : (binOp .eql 23 (.pointer (some ⟨d, 0, none⟩)) (.pointer none)).run Try.prog w = .ok (.bool false) w := by
  obtain ⟨i, hi, _⟩ := Option.map_eq_some_iff.1 (show (Try.prog.info? 66).map (fun i => i.size) = some 5 by kernel_rfl)
  have h : ∀ d' : Nat, (Op.equalIn (d' + 1) 23 (.pointer (some ⟨d, 0, none⟩)) (.pointer none)).run Try.prog w = .ok false w := fun d' => by
    simp [Op.equalIn, run_underlying Try.underlying23, sizeOf, typeInfo, hi]
  simp only [binOp]
  simp [Op.equal, Op.maxDepth, h 9999]
/-- A point of two numbers, in a variable of its own. -/
structure Boxed (wr wc : World) (bx g : Nat) (i X0 X1 : Int) : Prop where
  ubx : wr.heap.size ≤ bx
  ug : wr.heap.size ≤ g
  row : Row wc bx 37 [.int .i64 i, .slice (some ⟨g, 0, none⟩) 2 2]
  vec : Reads wc (g + 1) 1 (some ⟨g, 0, none⟩) 2 (ints [X0, X1])
  glt : g < wc.heap.size
  below : Below wr.heap.size wr wc
theorem boxedA (wr : World) (i X0 X1 : Int) : Boxed wr ((wr.alloc (.cells #[.int .i64 X0, .int .i64 X1] 3)).alloc (.cells #[.int .i64 i, .slice (some ⟨wr.heap.size, 0, none⟩) 2 2] 37)).drew (wr.heap.size + 1) wr.heap.size i X0 X1 := by
  have e : (wr.alloc (.cells #[.int .i64 X0, .int .i64 X1] 3)).heap.size = wr.heap.size + 1 := by simp
  have hb := ((Below.refl wr.heap.size wr).alloc (Nat.le_refl _) (.cells #[.int .i64 X0, .int .i64 X1] 3))
  have r1 := Row.new (wr.alloc (.cells #[.int .i64 X0, .int .i64 X1] 3)) 37 [.int .i64 i, .slice (some ⟨wr.heap.size, 0, none⟩) 2 2]
  rw [e] at r1
  exact ⟨by omega, Nat.le_refl _, r1, ((news_int wr [X0, X1] (by simp)).alloc (by simp) _).drew, by show _ < ((wr.alloc _).alloc _).heap.size; simp; omega, below_drewN (hb.alloc (by simp) _) 1⟩
theorem boxedB (wr : World) (i X0 X1 : Int) : Boxed wr ((wr.alloc (.cells #[.int .i64 i, .slice (some ⟨wr.heap.size + 1, 0, none⟩) 2 2] 37)).alloc (.cells #[.int .i64 X0, .int .i64 X1] 3)).drew wr.heap.size (wr.heap.size + 1) i X0 X1 := by
  have e : (wr.alloc (.cells #[.int .i64 i, .slice (some ⟨wr.heap.size + 1, 0, none⟩) 2 2] 37)).heap.size = wr.heap.size + 1 := by simp
  have hb := ((Below.refl wr.heap.size wr).alloc (Nat.le_refl _) (.cells #[.int .i64 i, .slice (some ⟨wr.heap.size + 1, 0, none⟩) 2 2] 37))
  have r1 := Row.new wr 37 [.int .i64 i, .slice (some ⟨wr.heap.size + 1, 0, none⟩) 2 2]
  have n1 := news_int (wr.alloc (.cells #[.int .i64 i, .slice (some ⟨wr.heap.size + 1, 0, none⟩) 2 2] 37)) [X0, X1] (by simp)
  rw [e] at n1
  exact ⟨Nat.le_refl _, by omega, r1.keep (heap_alloc_lt _ _ (by rw [e]; omega)), n1.drew, by show _ < ((wr.alloc _).alloc _).heap.size; simp, below_drewN (hb.alloc (by rw [e]; omega) _) 1⟩
end Go.Proofs.Ytkgapieikgniiaa
