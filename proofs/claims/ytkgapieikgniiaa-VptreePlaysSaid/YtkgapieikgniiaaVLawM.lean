/- VptreeLimit: with the farthest one's distance as its limit a search finds the same. Conditions: the slice of points reads as a list. -/
import Derived.Test.YtkgapieikgniiaaVLawF
import Derived.Test.YtkgapieikgniiaaVOpen
import Derived.Deep.RegionHeld3
set_option linter.unusedVariables false
set_option linter.unusedSimpArgs false
namespace Go.Proofs.Ytkgapieikgniiaa
open Go Go.RowKit Go.Maps
theorem andMask (n : Int) (k : Nat) (m : Int) (hm : (BitVec.ofInt 64 m).toNat = 2 ^ k - 1) (hk : k ≤ 16) : bits .and .i64 n m = n % ((2 ^ k : Nat) : Int) := by
  have key : (BitVec.ofInt 64 n &&& BitVec.ofInt 64 m).toNat = (n % ((2 ^ 64 : Nat) : Int)).toNat % 2 ^ k := by
    rw [BitVec.toNat_and, BitVec.toNat_ofInt, hm, Nat.and_two_pow_sub_one_eq_mod]
  show IntKind.i64.wrap ((BitVec.ofInt 64 n &&& BitVec.ofInt 64 m).toNat : Nat) = _
  rw [key]
  have h1 : (2 ^ k : Nat) ∣ 2 ^ 64 := Nat.pow_dvd_pow 2 (by omega)
  have h2 : 0 < (2 ^ k : Nat) := Nat.pos_of_ne_zero (by simp)
  have h3 : (2 ^ k : Nat) ≤ 2 ^ 16 := Nat.pow_le_pow_right (by omega) hk
  have h4 : (((n % ((2 ^ 64 : Nat) : Int)).toNat % 2 ^ k : Nat) : Int) = n % ((2 ^ k : Nat) : Int) := by
    rw [Int.natCast_emod, Int.toNat_of_nonneg (Int.emod_nonneg _ (by decide))]
    exact Int.emod_emod_of_dvd n (Int.natCast_dvd_natCast.2 h1)
  have h5 := Nat.mod_lt (n % ((2 ^ 64 : Nat) : Int)).toNat h2
  rw [← h4, IntKind.wrap_i64]
  omega
theorem and255 (n : Int) : bits .and .i64 n 255 = n % 256 := andMask n 8 255 (by decide) (by omega)
theorem and31 (n : Int) : bits .and .i64 n 31 = n % 32 := andMask n 5 31 (by decide) (by omega)
theorem and65535 (n : Int) : bits .and .i64 n 65535 = n % 65536 := andMask n 16 65535 (by decide) (by omega)
/-- Points put in one behind the other: those that are none change nothing, nor those for which there is no room. -/
def putAll (dim : Nat) : List Pt → List Pnt → List Pnt
  | [], T => T
  | p :: r, T => putAll dim r (if ck p.2.2 dim = 0 ∧ (hasT p.1 T = true ∨ T.length < 512) then putT p.1 p.2.2 T else T)
theorem putAll_snoc (dim : Nat) : ∀ (l : List Pt) (p : Pt) (T : List Pnt), putAll dim (l ++ [p]) T = (if ck p.2.2 dim = 0 ∧ (hasT p.1 (putAll dim l T) = true ∨ (putAll dim l T).length < 512) then putT p.1 p.2.2 (putAll dim l T) else putAll dim l T)
  | [], p, T => rfl
  | q :: r, p, T => by
    rw [List.cons_append]
    unfold putAll
    exact putAll_snoc dim r p _
/-- Put of whatever point: what it answers, and what the tree has then. -/
def putA (dim : Nat) (x : Int) (l : List Int) (T : List Pnt) : Bool × Int := if ck l dim = 0 then (if hasT x T = true ∨ T.length < 512 then (hasT x T, 0) else (false, 2)) else (false, 50)
def putR (dim : Nat) (x : Int) (l : List Int) (T : List Pnt) : List Pnt := if ck l dim = 0 ∧ (hasT x T = true ∨ T.length < 512) then putT x l T else T
theorem t_put_all {b0 : Nat} {w0 w : World} {F : Nat → Prop} {t : Nat} {T : List Pnt} {dim : Nat} (h : Mine b0 w0 w F t dim T) {x : Int} {A : Option Addr} {n c C : Nat} {l : List Int} (hx : (Lit.int .i64 x).wf = true) (hR : Reads w C 1 A n (ints l)) (hC : C ≤ w.heap.size) (hn : n ≤ maxLen) (hA : 0 < n → ∀ ad, A = some ad → ¬ F ad.block) :
    Calls Try.prog 19 #[.pointer (some ⟨t, 0, none⟩), .agg #[.int .i64 x, .slice A n c]] w fun e w' => e = .returned (.tuple #[.bool (putA dim x l T).1, .int .i64 (putA dim x l T).2]) ∧ ∃ F', Mine b0 w0 w' F' t dim (putR dim x l T) := by
  unfold putA putR
  by_cases hk : ck l dim = 0
  · by_cases hf : hasT x T = true ∨ T.length < 512
    · rw [if_pos hk, if_pos hf, if_pos ⟨hk, hf⟩]
      refine (t_put h.tree hx hR hC hn (hA (by have := hR.len; have := (ck_len hk).1; rw [okV_iff] at this; omega)) hk hf).mono ?_
      rintro e w' ⟨rfl, F', ht, hT⟩
      exact ⟨rfl, F', h.turn ht hT⟩
    · rw [if_pos hk, if_neg hf, if_neg (fun hh => hf hh.2)]
      refine (t_put_full h.tree hx hR hC hn hk (by
        cases hh : hasT x T with
        | true => exact absurd (.inl hh) hf
        | false => rfl) (by omega)).mono ?_
      rintro e w' ⟨rfl, ht, hT⟩
      exact ⟨rfl, F, h.turn ht hT⟩
  · rw [if_neg hk, if_neg (fun hh => hk hh.1)]
    refine (t_put_bad h.tree hR hC hn ((ck_or l dim).resolve_left hk)).mono ?_
    rintro e w' ⟨rfl, ht, hT⟩
    exact ⟨rfl, F, h.turn ht hT⟩
theorem putAll_len (dim : Nat) : ∀ (l : List Pt) (T : List Pnt), (putAll dim l T).length ≤ T.length + l.length
  | [], T => by simp [putAll]
  | p :: r, T => by
    unfold putAll
    refine Nat.le_trans (putAll_len dim r _) ?_
    have : (putT p.1 p.2.2 T).length ≤ T.length + 1 := by
      rw [(putT_perm p.1 p.2.2 T).length_eq]
      have : (delT p.1 T).length ≤ T.length := List.length_filter_le ..
      simp only [List.length_cons]
      omega
    simp only [List.length_cons]
    split <;> omega
theorem srt_filter (p : Hit → Bool) (S : List Hit) : srtH (S.filter p) = (srtH S).filter p :=
  ord_unique (srtH_ord _) ((srtH_ord S).filter _) ((srtH_self _).trans ((srtH_self S).filter p).symm)
theorem take_same {L : List Hit} {k : Nat} {x : Int} (h : ∀ y ∈ L.take k, y.2 ≤ x) : (L.filter fun y => decide (y.2 ≤ x)).take k = L.take k := by
  have e : L.filter (fun y => decide (y.2 ≤ x)) = L.take k ++ (L.drop k).filter fun y => decide (y.2 ≤ x) := by
    conv => lhs; rw [← List.take_append_drop k L]
    rw [List.filter_append, List.filter_eq_self.2 (fun y hy => decide_eq_true (h y hy))]
  rw [e]
  rcases Nat.lt_or_ge L.length k with hk | hk
  · rw [List.drop_eq_nil_of_le (by omega), List.filter_nil, List.append_nil, List.take_take, Nat.min_self]
  · exact List.take_left' (by rw [List.length_take]; omega)
theorem last_mem {l : List Hit} (h : 0 < l.length) : l.getD (l.length - 1) (0, 0) ∈ l := by
  rw [List.getD_eq_getElem?_getD, List.getElem?_eq_getElem (by omega), Option.getD_some]
  exact List.getElem_mem _
theorem last_max {l : List Hit} (ho : InOrd l) : ∀ x ∈ l, x.2 ≤ (l.getD (l.length - 1) (0, 0)).2 := by
  intro x hx
  obtain ⟨i, hi, rfl⟩ := List.mem_iff_getElem.1 hx
  rw [List.getD_eq_getElem?_getD, List.getElem?_eq_getElem (by omega), Option.getD_some]
  rcases Nat.lt_or_ge i (l.length - 1) with hik | hik
  · have := List.pairwise_iff_getElem.1 ho i _ hi (by omega) hik
    rw [Bool.eq_false_iff, Ne, hlt_iff] at this
    omega
  · have e : i = l.length - 1 := by omega
    subst e
    exact Int.le_refl _
theorem take_less {L : List Hit} {k : Nat} {f : Int} (ho : InOrd L) (h0 : 0 < (L.take k).length) (hf : f = ((L.take k).getD ((L.take k).length - 1) (0, 0)).2) :
    (L.filter fun y => decide (y.2 ≤ f - 1)).take k = (L.take k).filter fun y => decide (y.2 < f) := by
  have ho' : InOrd (L.take k ++ L.drop k) := by rw [List.take_append_drop]; exact ho
  have hap := (List.pairwise_append.1 ho').2.2
  have e : L.filter (fun y => decide (y.2 ≤ f - 1)) = (L.take k).filter (fun y => decide (y.2 < f)) := by
    conv => lhs; rw [← List.take_append_drop k L]
    rw [List.filter_append, (List.filter_eq_nil_iff (l := L.drop k)).2 (fun y hy => by
      have := hap _ (last_mem h0) y hy
      rw [Bool.eq_false_iff, Ne, hlt_iff] at this
      simp only [decide_eq_true_eq]
      omega), List.append_nil]
    exact List.filter_congr (fun y _ => by rw [decide_eq_decide]; omega)
  rw [e]
  refine List.take_of_length_le (Nat.le_trans (List.length_filter_le ..) ?_)
  rw [List.length_take]
  omega
theorem filter_cut {l : List Hit} {f : Int} {s : Nat} (ho : InOrd l) (h1 : ∀ t, t < s → (l.getD t (0, 0)).2 < f) (h2 : s < l.length → f ≤ (l.getD s (0, 0)).2) (hs : s ≤ l.length) : (l.filter fun y => decide (y.2 < f)) = l.take s := by
  conv => lhs; rw [← List.take_append_drop s l]
  rw [List.filter_append, List.filter_eq_self.2 (fun y hy => by
    obtain ⟨i, hi, rfl⟩ := List.mem_iff_getElem.1 hy
    rw [List.length_take] at hi
    have := h1 i (by omega)
    rw [List.getD_eq_getElem?_getD, List.getElem?_eq_getElem (by omega), Option.getD_some] at this
    rw [List.getElem_take]
    exact decide_eq_true this), (List.filter_eq_nil_iff (l := l.drop s)).2 (fun y hy => by
    obtain ⟨i, hi, rfl⟩ := List.mem_iff_getElem.1 hy
    rw [List.length_drop] at hi
    have := h2 (by omega)
    rw [List.getD_eq_getElem?_getD, List.getElem?_eq_getElem (by omega), Option.getD_some] at this
    rw [List.getElem_drop]
    simp only [decide_eq_true_eq]
    rcases Nat.eq_zero_or_pos i with rfl | hi0
    · simp only [Nat.add_zero]
      omega
    · have h3 := List.pairwise_iff_getElem.1 ho s (s + i) (by omega) (by omega) (by omega)
      rw [Bool.eq_false_iff, Ne, hlt_iff] at h3
      omega), List.append_nil]
/-- All points as what was found. -/
def allH (T : List Pnt) (v : List Int) : List Hit := srtH (T.map fun p => (p.1, far p.2 v))
theorem topH_all (T : List Pnt) (v : List Int) (k : Nat) (x : Int) : topH T v k x = ((allH T v).filter fun y => decide (y.2 ≤ x)).take k := by
  unfold topH bst allH nearH
  rw [srt_filter]
theorem topH_big {T : List Pnt} {v : List Int} {k : Nat} {x : Int} (h : ∀ p ∈ T, far p.2 v ≤ x) : topH T v k x = (allH T v).take k := by
  rw [topH_all, List.filter_eq_self.2 (fun y hy => by
    obtain ⟨p, hp, rfl⟩ := List.mem_map.1 ((srtH_self _).mem_iff.1 hy)
    exact decide_eq_true (h p hp))]
theorem allH_len (T : List Pnt) (v : List Int) : (allH T v).length = T.length := by unfold allH; rw [srtH_len, List.length_map]
theorem allH_ord (T : List Pnt) (v : List Int) : InOrd (allH T v) := srtH_ord _
theorem putR_snoc (dim : Nat) (l : List Pt) (p : Pt) (T : List Pnt) : putAll dim (l ++ [p]) T = putR dim p.1 p.2.2 (putAll dim l T) := putAll_snoc dim l p T
theorem take_pt' {l : List Pt} {i : Nat} (hi : i < l.length) : l.take (i + 1) = l.take i ++ [ptAt l i] := by
  unfold ptAt
  rw [List.getD_eq_getElem?_getD, List.getElem?_eq_getElem hi, Option.getD_some, List.take_succ_eq_append_getElem hi]
theorem hits_prefix {w : World} {B n s : Nat} {A : Option Addr} {l : List Hit} (h : Reads w B 2 A n (hits l)) (hs : s ≤ n) : Reads w B 2 A s (hits (l.take s)) := by
  have hl := h.hits_len
  refine ⟨by rw [hits_len, List.length_take]; omega, fun h0 => ?_⟩
  obtain ⟨ad, e, hb, hc⟩ := h.2 (by omega)
  refine ⟨ad, e, hb, fun j u hj => hc j u ?_⟩
  rw [← hits_take] at hj
  rw [List.getElem?_take] at hj
  split at hj
  · exact hj
  · cases hj
end Go.Proofs.Ytkgapieikgniiaa
