/- A tree of package vptree by its points alone: New, Put, Drop, Get, Len. Conditions: a tree that New gave, in memory. -/
import Derived.Test.YtkgapieikgniiaaVPut
set_option linter.unusedVariables false
set_option linter.unusedSimpArgs false
namespace Go.Proofs.Ytkgapieikgniiaa
open Go Go.RowKit Go.Maps
abbrev Pnt := Int × List Int
def hasT (x : Int) (T : List Pnt) : Bool := T.any fun p => decide (p.1 = x)
def delT (x : Int) (T : List Pnt) : List Pnt := T.filter fun p => decide (p.1 ≠ x)
def putT (x : Int) (l : List Int) (T : List Pnt) : List Pnt := (T.filter fun p => decide (p.1 < x)) ++ (x, l) :: T.filter fun p => decide (x < p.1)
def Rise (T : List Pnt) : Prop := T.Pairwise fun p q => p.1 < q.1
theorem Rise.del {T : List Pnt} (h : Rise T) (x : Int) : Rise (delT x T) := h.filter _
theorem Rise.put {T : List Pnt} (h : Rise T) (x : Int) (l : List Int) : Rise (putT x l T) := by
  refine List.pairwise_append.2 ⟨h.filter _, List.pairwise_cons.2 ⟨fun q hq => ?_, h.filter _⟩, fun p hp q hq => ?_⟩
  · exact of_decide_eq_true (List.mem_filter.1 hq).2
  · have h1 : p.1 < x := of_decide_eq_true (List.mem_filter.1 hp).2
    rcases List.mem_cons.1 hq with rfl | hq
    · exact h1
    · have h2 : x < q.1 := of_decide_eq_true (List.mem_filter.1 hq).2
      omega
theorem putT_perm (x : Int) (l : List Int) : ∀ T : List Pnt, (putT x l T).Perm ((x, l) :: delT x T)
  | [] => List.Perm.refl _
  | p :: r => by
    have ih := putT_perm x l r
    unfold putT delT at *
    rw [List.filter_cons, List.filter_cons, List.filter_cons]
    by_cases h1 : p.1 < x
    · have h2 : ¬ x < p.1 := by omega
      have h3 : p.1 ≠ x := by omega
      simp only [h1, h2, h3, decide_true, decide_false, if_true, if_false, ne_eq, not_false_eq_true, List.cons_append]
      exact (ih.cons p).trans (List.Perm.swap ..)
    · by_cases h2 : x < p.1
      · have h3 : p.1 ≠ x := by omega
        simp only [h1, h2, h3, decide_true, decide_false, if_true, if_false, ne_eq, not_false_eq_true]
        have h4 : ∀ (a : List Pnt) (y : Pnt) (b : List Pnt), (a ++ y :: p :: b).Perm (p :: (a ++ y :: b)) := fun a y b => by
          have := (List.perm_middle (a := p) (l₁ := a ++ [y]) (l₂ := b))
          simpa using this
        exact ((h4 _ _ _).trans (ih.cons p)).trans (List.Perm.swap ..)
      · have h3 : decide (p.1 ≠ x) = false := decide_eq_false (by omega)
        rw [h3]
        simp only [h1, h2, decide_false, if_false]
        exact ih
theorem hasT_iff (x : Int) (T : List Pnt) : hasT x T = true ↔ ∃ p ∈ T, p.1 = x := by simp [hasT]
theorem hasT_perm {T : List Pnt} {E : List Ent} (h : T.Perm (E.map bare)) (x : Int) : hasT x T = isId x E := by
  rw [Bool.eq_iff_iff, hasT_iff, isId_iff]
  constructor
  · rintro ⟨p, hp, e⟩
    obtain ⟨q, hq, rfl⟩ := List.mem_map.1 (h.mem_iff.1 hp)
    exact ⟨q, hq, e⟩
  · rintro ⟨q, hq, e⟩
    exact ⟨bare q, h.mem_iff.2 (List.mem_map.2 ⟨q, hq, rfl⟩), e⟩
theorem noId_map (x : Int) (E : List Ent) : (noId x E).map bare = delT x (E.map bare) := by
  unfold noId delT
  rw [List.filter_map]
  rfl
theorem noId_app (x : Int) (B U : List Ent) : noId x (B ++ U) = noId x B ++ noId x U := by simp [noId]
theorem delT_perm {T : List Pnt} {E : List Ent} (h : T.Perm (E.map bare)) (x : Int) : (delT x T).Perm ((noId x E).map bare) := by
  rw [noId_map]
  exact h.filter _
theorem putT_perm' {T : List Pnt} {B U : List Ent} (h : T.Perm ((B ++ U).map bare)) (x : Int) (v : Value) (l : List Int) : (putT x l T).Perm ((noId x B ++ (x, v, l) :: noId x U).map bare) := by
  refine (putT_perm x l T).trans (((delT_perm h x).cons (x, l)).trans ?_)
  rw [noId_app]
  have := (List.perm_middle (a := ((x, v, l) : Ent)) (l₁ := noId x B) (l₂ := noId x U)).symm
  exact this.map bare
section
variable {w w' : World} {F F' : Nat → Prop} {t dim : Nat} {T : List Pnt}
theorem Tree.turn {G G' : Nat → Prop} (h : Tree w F t dim T) (k : Turn G w G' w') (hd : ∀ b, F b → ¬ G b) : Tree w' F t dim T := by
  obtain ⟨⟨bm, fm, rv, N, B, U, hm, hp⟩, hr⟩ := h
  exact ⟨⟨bm, fm, rv, N, B, U, hm.turn k hd, hp⟩, hr⟩
theorem Tree.below (h : Tree w F t dim T) (hb : Below w.heap.size w w') : Tree w' F t dim T := by
  obtain ⟨⟨bm, fm, rv, N, B, U, hm, hp⟩, hr⟩ := h
  exact ⟨⟨bm, fm, rv, N, B, U, hm.below hb, hp⟩, hr⟩
theorem Tree.drewN (h : Tree w F t dim T) (q : Nat) : Tree (w.drewN q) F t dim T := h.below (below_drewN (Below.refl _ w) q)
theorem Tree.lt (h : Tree w F t dim T) : ∀ b, F b → b < w.heap.size := by
  obtain ⟨⟨bm, fm, rv, N, B, U, hm, hp⟩, hr⟩ := h
  exact hm.lt
theorem Tree.ft (h : Tree w F t dim T) : F t := by
  obtain ⟨⟨bm, fm, rv, N, B, U, hm, hp⟩, hr⟩ := h
  exact hm.ft
theorem Tree.len (h : Tree w F t dim T) : T.length ≤ 512 := by
  obtain ⟨⟨bm, fm, rv, N, B, U, hm, hp⟩, hr⟩ := h
  rw [hp.length_eq]
  simpa using hm.len
theorem Tree.ok (h : Tree w F t dim T) : ∀ p ∈ T, (Lit.int .i64 p.1).wf = true ∧ okV p.2 = true ∧ p.2.length = dim := by
  obtain ⟨⟨bm, fm, rv, N, B, U, hm, hp⟩, hr⟩ := h
  intro p hpT
  obtain ⟨q, hq, rfl⟩ := List.mem_map.1 (hp.mem_iff.1 hpT)
  exact hm.ok q hq
theorem Tree.dims (h : Tree w F t dim T) : 1 ≤ dim ∧ dim ≤ 16 := by
  obtain ⟨⟨bm, fm, rv, N, B, U, hm, hp⟩, hr⟩ := h
  exact ⟨hm.dim1, hm.dim2⟩
theorem t_len (h : Tree w F t dim T) : Calls Try.prog 15 #[.pointer (some ⟨t, 0, none⟩)] w (Says (.int .i64 (T.length : Int)) w) := by
  obtain ⟨⟨bm, fm, rv, N, B, U, hm, hp⟩, hr⟩ := h
  have e : T.length = B.length + U.length := by rw [hp.length_eq]; simp
  rw [e]
  exact vlen_any hm
theorem t_drop (h : Tree w F t dim T) {x : Int} (hx : (Lit.int .i64 x).wf = true) : Calls Try.prog 25 #[.pointer (some ⟨t, 0, none⟩), .int .i64 x] w fun e w' => e = .returned (.bool (hasT x T)) ∧ Tree w' F t dim (delT x T) ∧ Turn F w F w' := by
  obtain ⟨⟨bm, fm, rv, N, B, U, hm, hp⟩, hr⟩ := h
  refine (vdrop_any hm hx).mono ?_
  rintro e w' ⟨rfl, rv', N', h', T'⟩
  exact ⟨by rw [hasT_perm hp], ⟨⟨bm, fm, rv', N', _, _, h', by rw [← noId_app]; exact delT_perm hp x⟩, Rise.del hr x⟩, T'⟩
theorem t_put_bad (h : Tree w F t dim T) {x : Int} {A : Option Addr} {n c C : Nat} {l : List Int} (hR : Reads w C 1 A n (ints l)) (hC : C ≤ w.heap.size) (hn : n ≤ maxLen) (hk : ck l dim = 50) :
    Calls Try.prog 19 #[.pointer (some ⟨t, 0, none⟩), point x A n c] w fun e w' => e = .returned (.tuple #[.bool false, .int .i64 50]) ∧ Tree w' F t dim T ∧ Turn F w F w' := by
  obtain ⟨⟨bm, fm, rv, N, B, U, hm, hp⟩, hr⟩ := h
  refine (vput_bad hm hR hC hn hk).mono ?_
  rintro e w' ⟨rfl, rv', N', h', T'⟩
  exact ⟨rfl, ⟨⟨bm, fm, rv', N', _, _, h', hp⟩, hr⟩, T'⟩
theorem t_put_full (h : Tree w F t dim T) {x : Int} {A : Option Addr} {n c C : Nat} {l : List Int} (hx : (Lit.int .i64 x).wf = true) (hR : Reads w C 1 A n (ints l)) (hC : C ≤ w.heap.size) (hn : n ≤ maxLen) (hk : ck l dim = 0) (hi : hasT x T = false) (hf : 512 ≤ T.length) :
    Calls Try.prog 19 #[.pointer (some ⟨t, 0, none⟩), point x A n c] w fun e w' => e = .returned (.tuple #[.bool false, .int .i64 2]) ∧ Tree w' F t dim T ∧ Turn F w F w' := by
  obtain ⟨⟨bm, fm, rv, N, B, U, hm, hp⟩, hr⟩ := h
  have e : T.length = B.length + U.length := by rw [hp.length_eq]; simp
  refine (vput_full hm hx hR hC hn hk (by rw [← hasT_perm hp]; exact hi) (by omega)).mono ?_
  rintro e w' ⟨rfl, rv', N', h', T'⟩
  exact ⟨rfl, ⟨⟨bm, fm, rv', N', _, _, h', hp⟩, hr⟩, T'⟩
theorem t_put (h : Tree w F t dim T) {x : Int} {A : Option Addr} {n c C : Nat} {l : List Int} (hx : (Lit.int .i64 x).wf = true) (hR : Reads w C 1 A n (ints l)) (hC : C ≤ w.heap.size) (hn : n ≤ maxLen) (hA : ∀ ad, A = some ad → ¬ F ad.block) (hk : ck l dim = 0) (hf : hasT x T = true ∨ T.length < 512) :
    Calls Try.prog 19 #[.pointer (some ⟨t, 0, none⟩), point x A n c] w fun e w' => e = .returned (.tuple #[.bool (hasT x T), .int .i64 0]) ∧ ∃ F', Tree w' F' t dim (putT x l T) ∧ Turn F w F' w' := by
  obtain ⟨⟨bm, fm, rv, N, B, U, hm, hp⟩, hr⟩ := h
  have e : T.length = B.length + U.length := by rw [hp.length_eq]; simp
  refine (vput_any hm hx hR hC hn hA hk (by rw [← hasT_perm hp]; rw [← e]; exact hf)).mono ?_
  rintro e w' ⟨rfl, F', rv', N', v', h', T'⟩
  exact ⟨by rw [hasT_perm hp], F', ⟨⟨bm, fm, rv', N', _, _, h', putT_perm' hp x v' l⟩, Rise.put hr x l⟩, T'⟩
theorem t_get_no (h : Tree w F t dim T) {x : Int} (hx : (Lit.int .i64 x).wf = true) (hi : hasT x T = false) : Calls Try.prog 24 #[.pointer (some ⟨t, 0, none⟩), .int .i64 x] w fun e w' => e = .returned (.tuple #[.slice none 0 0, .int .i64 3]) ∧ ∃ q, w' = w.drewN q := by
  obtain ⟨⟨bm, fm, rv, N, B, U, hm, hp⟩, hr⟩ := h
  exact vget_no hm hx (by rw [← hasT_perm hp]; exact hi)
theorem t_get (h : Tree w F t dim T) {x : Int} (hx : (Lit.int .i64 x).wf = true) (hi : hasT x T = true) : Calls Try.prog 24 #[.pointer (some ⟨t, 0, none⟩), .int .i64 x] w fun e w' => ∃ l v, (x, l) ∈ T ∧ e = .returned (.tuple #[v, .int .i64 0]) ∧ w'.ownsRow w.heap.size 3 1 v l.length (ints l) ∧ Below w.heap.size w w' := by
  obtain ⟨⟨bm, fm, rv, N, B, U, hm, hp⟩, hr⟩ := h
  refine (vget_yes hm hx (by rw [← hasT_perm hp]; exact hi)).mono ?_
  rintro e w' ⟨v0, l, v, hm', rfl, ho, hb⟩
  exact ⟨l, v, hp.mem_iff.2 (List.mem_map.2 ⟨_, hm', rfl⟩), rfl, ho, hb⟩
end
theorem vnew_no (z : Int) (w : World) (hz : z < 1 ∨ 16 < z) : Calls Try.prog 11 #[.int .i64 z] w fun e w' => e = .returned (.tuple #[.pointer none, .int .i64 1]) ∧ w' = w := by
  by_cases h : z < 1
  · go_enter Try.func11, Try.ntmps11
    go_wp2_with fail
    go_ret2
    exact ⟨rfl, rfl⟩
  · have h2 : 16 < z := by omega
    go_enter Try.func11, Try.ntmps11
    go_wp2_with fail
    go_ret2
    exact ⟨rfl, rfl⟩
def NewPost (w : World) (dim : Nat) (e : Ending) (w' : World) : Prop := ∃ F t, e = .returned (.tuple #[.pointer (some ⟨t, 0, none⟩), .int .i64 0]) ∧ Tree w' F t dim [] ∧ (∀ b, F b → w.heap.size ≤ b) ∧ Below w.heap.size w w'
set_option maxHeartbeats 1000000 in
theorem vnew_any (dim : Nat) (w : World) (h1 : 1 ≤ dim) (h2 : dim ≤ 16) : Calls Try.prog 11 #[.int .i64 (dim : Int)] w (NewPost w dim) := by
  have hmm := @run_makeMap Try.prog
  have z1 : ¬ (dim : Int) < 1 := by omega
  have z2 : ¬ (16 : Int) < (dim : Int) := by omega
  have HD := Lib.hid (And.intro h1 h2)
  clear h1 h2
  go_enter Try.func11, Try.ntmps11
  go_wp2_with fail
  go_ret2
  have hb : Below w.heap.size w (((w.alloc (Obj.map #[] 0)).alloc (Obj.map #[] 0)).alloc (.cells #[.pointer (some ⟨w.heap.size + 1 + 1, 0, none⟩), .int .i64 (dim : Int), .pointer none, .map (some w.heap.size), .map (some (w.heap.size + 1))] 66)) :=
    (((Below.refl _ w).alloc (Nat.le_refl _) _).alloc (by simp) _).alloc (by simp; omega) _
  refine ⟨fun b => w.heap.size ≤ b ∧ b < w.heap.size + 3, w.heap.size + 1 + 1, rfl, ⟨⟨w.heap.size, w.heap.size + 1, .pointer none, NT.leaf, [], [], ?_, List.Perm.refl _⟩, List.Pairwise.nil⟩, fun b hb => hb.1, hb⟩
  have m1 : MapAt (w.alloc (Obj.map #[] 0)) w.heap.size [] := ⟨.map [], World.ownsMap_made w Try.prog 3 hR, MapIs.nil⟩
  have m2 : MapAt ((w.alloc (Obj.map #[] 0)).alloc (Obj.map #[] 0)) (w.heap.size + 1) [] := by
    have := World.ownsMap_made (w.alloc (Obj.map #[] 0)) Try.prog 3 hR
    exact ⟨.map [], by simpa using this, MapIs.nil⟩
  refine ⟨?_, ?_, ?_, HD.out.1, HD.out.2, by simp, by simp, by simp, rfl, trivial, List.Pairwise.nil, by simp, by simp, by omega, by omega, by omega, ⟨by omega, by omega⟩, ⟨by omega, by omega⟩, ⟨by omega, by omega⟩, fun b hb => by simp; omega⟩
  · have := heap_alloc_new ((w.alloc (Obj.map #[] 0)).alloc (Obj.map #[] 0)) (.cells #[.pointer (some ⟨w.heap.size + 1 + 1, 0, none⟩), .int .i64 (dim : Int), .pointer none, .map (some w.heap.size), .map (some (w.heap.size + 1))] 66)
    simpa using this
  · refine m1.keep ?_
    rw [heap_alloc_lt _ _ (by simp; omega), heap_alloc_lt _ _ (by simp)]
  · refine m2.keep ?_
    rw [heap_alloc_lt _ _ (by simp)]
end Go.Proofs.Ytkgapieikgniiaa
