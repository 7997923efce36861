/- The records that make a shard as it stands: plain. Conditions: none. -/
import Derived.Test.YtegjjhjgfkcbhaaGreatDoorG08
set_option linter.unusedVariables false
set_option linter.unusedSimpArgs false
set_option maxRecDepth 100000
namespace Go.Proofs.YtegjjhjgfkcbhaaGreatDoor
open Go Go.RowKit
def doL (k : KS) (rs : List RK) : KS := rs.foldl doK k
def MayL : KS → List RK → Prop
  | _, [] => True
  | k, r :: rs => r.May k ∧ MayL (doK k r) rs
theorem doL_app (k : KS) (a b : List RK) : doL k (a ++ b) = doL (doL k a) b := by simp [doL, List.foldl_append]
theorem mayL_app : ∀ (a b : List RK) (k : KS), MayL k (a ++ b) ↔ MayL k a ∧ MayL (doL k a) b
  | [], b, k => by simp [MayL, doL]
  | r :: a, b, k => by
    simp only [List.cons_append, MayL, mayL_app a b (doK k r), and_assoc]
    rfl
theorem mayL_snoc (k : KS) (a : List RK) (r : RK) (h : MayL k a) (hr : r.May (doL k a)) : MayL k (a ++ [r]) := (mayL_app a [r] k).2 ⟨h, hr, trivial⟩
/-- A shard that may be. -/
structure KS.Good (k : KS) : Prop where
  d1 : 1 ≤ k.dm
  d2 : k.dm ≤ 16
  st : Be.S64 k.st
  ep : Be.S64 k.ep
  mv : Be.S64 k.mv
  v0 : 0 ≤ k.vr
  v1 : k.vr ≤ 1000000000
  rise : Rise k.T
  few : k.T.length ≤ 512
  pts : ∀ p ∈ k.T, Be.S64 p.1 ∧ ck p.2 k.dm = 0
  tab : Be.Okq k.q
theorem ks0_good (dim : Nat) (h1 : 1 ≤ dim) (h2 : dim ≤ 16) : (ks0 dim).Good := ⟨h1, h2, s64_0, s64_0, s64_0, by simp [ks0], by simp [ks0], List.Pairwise.nil, by simp [ks0], by simp [ks0], Be.okq0⟩
def chunk (l : List Pnt) (i : Nat) : List Pnt := (l.drop (128 * i)).take 128
def chunks (l : List Pnt) (n : Nat) : List (List Pnt) := (List.range n).map (chunk l)
theorem chunks_flat (l : List Pnt) : ∀ n, (chunks l n).flatten = l.take (128 * n)
  | 0 => by simp [chunks]
  | n + 1 => by
    have ih := chunks_flat l n
    unfold chunks at ih ⊢
    rw [List.range_succ, List.map_append, List.flatten_append, ih, List.map_singleton, List.flatten_singleton, chunk, show 128 * (n + 1) = 128 * n + 128 by omega, List.take_add]
def chunkN (l : List Pnt) : Nat := (l.length + 127) / 128
theorem chunks_all (l : List Pnt) : (chunks l (chunkN l)).flatten = l := by
  rw [chunks_flat, List.take_of_length_le (by unfold chunkN; omega)]
def wholeK (k : KS) (st ep mv : Int) : RK := .whole st ep mv k.vr k.dm k.q
def standR (k : KS) (st ep mv : Int) : List RK := wholeK k st ep mv :: (chunks k.T (chunkN k.T)).map .pts
theorem doL_pts : ∀ (L : List (List Pnt)) (k : KS), doL k (L.map .pts) = addsK k L.flatten
  | [], k => by simp [doL, addsK]
  | l :: L, k => by
    have := doL_pts L (addsK k l)
    simp only [List.map_cons, List.flatten_cons]
    show doL (addsK k l) (L.map .pts) = _
    rw [this]
    simp [addsK, List.foldl_append]
theorem putT_end {T : List Pnt} {x : Int} (v : List Int) (h : ∀ p ∈ T, p.1 < x) : putT x v T = T ++ [(x, v)] := by
  unfold putT
  have e1 : T.filter (fun p => decide (p.1 < x)) = T := List.filter_eq_self.2 fun p hp => by simpa using h p hp
  have e2 : T.filter (fun p => decide (x < p.1)) = [] := List.filter_eq_nil_iff.2 fun p hp => by have := h p hp; simp; omega
  rw [e1, e2]
theorem adds_rise : ∀ (l T0 : List Pnt), Rise (T0 ++ l) → l.foldl (fun T p => putT p.1 p.2 T) T0 = T0 ++ l
  | [], T0, _ => by simp
  | p :: l, T0, h => by
    have hlt : ∀ y ∈ T0, y.1 < p.1 := fun y hy => (List.pairwise_append.1 h).2.2 y hy p (List.mem_cons_self ..)
    rw [List.foldl_cons, putT_end p.2 hlt]
    have h2 : Rise ((T0 ++ [(p.1, p.2)]) ++ l) := by simpa using h
    rw [adds_rise l _ h2]
    simp
theorem mayL_pts (dm : Nat) : ∀ (L : List (List Pnt)) (k : KS), k.dm = dm → (∀ l ∈ L, l.length ≤ 128 ∧ ∀ p ∈ l, Be.S64 p.1 ∧ ck p.2 dm = 0) → Rise (k.T ++ L.flatten) → k.T.length + L.flatten.length ≤ 512 → MayL k (L.map .pts)
  | [], k, _, _, _, _ => trivial
  | l :: L, k, hd, h, hr, hn => by
    obtain ⟨h1, h2⟩ := h l (List.mem_cons_self ..)
    rw [List.flatten_cons] at hr hn
    rw [List.length_append] at hn
    have hr1 : Rise (k.T ++ l) := by
      rw [← List.append_assoc] at hr
      exact (List.pairwise_append.1 hr).1
    have e : (addsK k l).T = k.T ++ l := adds_rise l k.T hr1
    refine ⟨⟨h1, by rw [hd]; exact h2, by omega⟩, mayL_pts dm L (addsK k l) hd (fun m hm => h m (List.mem_cons_of_mem _ hm)) ?_ ?_⟩
    · rw [e, List.append_assoc]
      exact hr
    · rw [e, List.length_append]
      omega
theorem chunk_len (l : List Pnt) (i : Nat) : (chunk l i).length ≤ 128 := by
  unfold chunk
  rw [List.length_take]
  omega
theorem chunk_mem {l : List Pnt} {i : Nat} {p : Pnt} (h : p ∈ chunk l i) : p ∈ l := List.mem_of_mem_drop (List.mem_of_mem_take h)
/-- They make it, and may be done. -/
theorem stand_ok {k : KS} (h : k.Good) {st ep mv : Int} (h1 : Be.S64 st) (h2 : Be.S64 ep) (h3 : Be.S64 mv) : MayL (ks0 k.dm) (standR k st ep mv) ∧ doL (ks0 k.dm) (standR k st ep mv) = standK k st ep mv := by
  have hf := chunks_all k.T
  refine ⟨⟨⟨h1, h2, h3, ⟨h.v0, h.v1⟩, h.d2, h.tab⟩, mayL_pts k.dm _ _ rfl ?_ ?_ ?_⟩, ?_⟩
  · intro l hl
    obtain ⟨i, _, rfl⟩ := List.mem_map.1 hl
    exact ⟨chunk_len _ _, fun p hp => h.pts p (chunk_mem hp)⟩
  · rw [hf]
    exact h.rise
  · rw [hf]
    have := h.few
    simpa [doK, ks0, wholeK] using this
  · show doL (doK (ks0 k.dm) (wholeK k st ep mv)) _ = _
    rw [doL_pts, hf]
    have := adds_rise k.T [] (by simpa using h.rise)
    unfold addsK
    simp only [doK, ks0, wholeK, standK] at this ⊢
    rw [this]
    simp
theorem stand_new (dim : Nat) (st ep mv : Int) : standR (ks0 dim) st ep mv = [.whole st ep mv 0 dim Be.q0] := by simp [standR, chunks, chunkN, wholeK, ks0]
theorem hasT_len {x : Int} {v : List Int} {T : List Pnt} (hr : Rise T) : (putT x v T).length + (if hasT x T = true then 1 else 0) = T.length + 1 := by
  have hp := (putT_perm x v T).length_eq
  rw [hp, List.length_cons]
  have : (delT x T).length + (if hasT x T = true then 1 else 0) = T.length := by
    clear hp
    induction T with
    | nil => rfl
    | cons p r ih =>
      obtain ⟨h1, h2⟩ := List.pairwise_cons.1 hr
      have ih := ih h2
      unfold delT hasT at ih ⊢
      by_cases e : p.1 = x
      · have hn : r.filter (fun y => decide (y.1 ≠ x)) = r := List.filter_eq_self.2 fun y hy => by
          have := h1 y hy
          simp
          omega
        rw [List.filter_cons_of_neg (by simp [e]), hn]
        simp [e]
      · rw [List.filter_cons_of_pos (by simp [e])]
        simp only [List.any_cons, e, decide_false, Bool.false_or, List.length_cons]
        omega
  omega
/-- What a record makes of a shard that may be. -/
theorem KS.Good.do_ {k : KS} (h : k.Good) : ∀ {r : RK}, r.May k → (∀ st ep mv vr dm q, r = .whole st ep mv vr dm q → True) → (doK k r).dm = k.dm
  | .whole .., _, _ => rfl
  | .pts _, _, _ => rfl
  | .stand .., _, _ => rfl
  | .ins .., _, _ => rfl
  | .drop .., _, _ => rfl
theorem doK_dm (k : KS) : ∀ r : RK, (doK k r).dm = k.dm
  | .whole .. => rfl
  | .pts _ => rfl
  | .stand .. => rfl
  | .ins .. => rfl
  | .drop .. => rfl
theorem doL_dm : ∀ (rs : List RK) (k : KS), (doL k rs).dm = k.dm
  | [], _ => rfl
  | r :: rs, k => by
    show (doL (doK k r) rs).dm = k.dm
    rw [doL_dm rs, doK_dm]
theorem putT_mem {x : Int} {v : List Int} {T : List Pnt} {p : Pnt} (h : p ∈ putT x v T) : p = (x, v) ∨ p ∈ T := by
  have := (putT_perm x v T).mem_iff.1 h
  rcases List.mem_cons.1 this with h1 | h1
  · exact .inl h1
  · exact .inr (List.mem_filter.1 h1).1
theorem KS.Good.ins {k : KS} (h : k.Good) {cl sq : Int} {p : Pnt} (h3 : Be.S64 p.1) (h4 : ck p.2 k.dm = 0) (h5 : hasT p.1 k.T = true ∨ k.T.length < 512) (hv : k.vr < 1000000000) : (insK k cl sq p).Good := by
  have hl := hasT_len (x := p.1) (v := p.2) h.rise
  have h0 := h.v0
  refine ⟨h.d1, h.d2, h.st, h.ep, h.mv, by show (0 : Int) ≤ k.vr + 1; omega, by show k.vr + 1 ≤ 1000000000; omega, h.rise.put p.1 p.2, ?_, fun y hy => ?_, Be.putM_ok h.tab _ _ _ _⟩
  · show (putT p.1 p.2 k.T).length ≤ 512
    have := h.few
    rcases h5 with h5 | h5
    · rw [if_pos h5] at hl
      omega
    · split at hl <;> omega
  · rcases putT_mem hy with e | e
    · subst e
      exact ⟨h3, h4⟩
    · exact h.pts y e
theorem KS.Good.drop {k : KS} (h : k.Good) {cl sq x : Int} (hv : k.vr < 1000000000) : (dropK k cl sq x).Good := by
  have h0 := h.v0
  refine ⟨h.d1, h.d2, h.st, h.ep, h.mv, by show (0 : Int) ≤ k.vr + 1; omega, by show k.vr + 1 ≤ 1000000000; omega, h.rise.del x, ?_, fun y hy => h.pts y (List.mem_filter.1 hy).1, Be.putM_ok h.tab _ _ _ _⟩
  have := h.few
  have h2 : (delT x k.T).length ≤ k.T.length := List.length_filter_le _ _
  show (delT x k.T).length ≤ 512
  omega
theorem KS.Good.stand {k : KS} (h : k.Good) {st ep mv : Int} (h1 : Be.S64 st) (h2 : Be.S64 ep) (h3 : Be.S64 mv) : (standK k st ep mv).Good := ⟨h.d1, h.d2, h1, h2, h3, h.v0, h.v1, h.rise, h.few, h.pts, h.tab⟩
end Go.Proofs.YtegjjhjgfkcbhaaGreatDoor
