/- BMk, BVal, BWrA, Unhex, Frm, FPut in one text. Conditions: as each part says. -/
import Derived.Test.YtcbkgcnajplagaaDoorJ12
import Derived.Test.YtcbkgcnajplagaaDoorJ13
import Derived.Test.YtcbkgcnajplagaaDoorJ11
import Derived.Lib.AppendStr
import Derived.Test.YtcbkgcnajplagaaDoorJ16
import Derived.Lib.Bytealg
import Derived.Lib.IndexBytes
section
set_option linter.unusedVariables false
set_option linter.unusedSimpArgs false
namespace Go.Proofs.YtcbkgcnajplagaaDoor.Be
open Go Go.RowKit

section
variable {P : Program} (w : World)
theorem run_append_of_nil (base : Nat) (t ty e : TypeId) (i : TypeInfo) (size : Nat) (ht : P.underlying t = some (.slice e)) (hi : P.info? e = some i)
    (v : Value) (n : Nat) (xs : List Value) (hown : w.ownsRow base e size v n xs) (c : Nat) : (Builtin.append_ #[t, t] ty #[v, .slice none 0 c]).run P w = .ok v w := by
  rcases hown.2 with ⟨rfl, rfl⟩ | ⟨g, cap, cur, rfl, _, _, hnc, _⟩
  · simp [Builtin.append_, run_underlying ht, sizeOf, typeInfo, hi, Builtin.lenOf, Builtin.firstCells]
  · simp [Builtin.append_, run_underlying ht, sizeOf, typeInfo, hi, Builtin.lenOf, Builtin.firstCells, hnc, storeCells]
theorem run_append_any (base : Nat) (t ty e : TypeId) (i : TypeInfo) (z : Value) (size bytes : Nat) (ht : P.underlying t = some (.slice e)) (hi : P.info? e = some i) (hz : i.zero = some z)
    (hsize : i.size = size) (hby : i.bytes = bytes) (hzs : z.cells.size = size) (hsz : 0 < size)
    (v : Value) (n : Nat) (xs : List Value) (hown : w.ownsRow base e size v n xs)
    (ok : Nat → Prop) (A : Option Addr) (m c : Nat) (news : List Value) (hr : ReadsP ok w size A m news) (h1 : ∀ u ∈ news, u.oneCell' = true)
    (h63 : n + m ≤ maxLen) (hbytes : (n + m) * bytes ≤ 140737488355328) (hbase : base ≤ w.heap.size) :
    ∃ v' w', (Builtin.append_ #[t, t] ty #[v, .slice A m c]).run P w = .ok v' w' ∧ w'.ownsRow base e size v' (n + m) (xs ++ news) ∧ w.grownBy w' v.ownBlock ∧
      (v'.ownBlock = v.ownBlock ∨ v'.ownBlock = some w.heap.size) := by
  rcases A with _ | ad
  · have hm : m = 0 := by
      rcases Nat.eq_zero_or_pos m with h0 | h0
      · exact h0
      · obtain ⟨ad, h, _⟩ := hr.at_ h0
        cases h
    subst hm
    have hn : news = [] := List.eq_nil_of_length_eq_zero (by simpa using hr.len)
    subst hn
    exact ⟨v, w, run_append_of_nil w base t ty e i size ht hi v n xs hown c, by simpa using hown, World.grownBy.refl w _, .inl rfl⟩
  · have hcells : ∀ j u, news[j]? = some u → w.cell? (ad.add j) = some u := by
      intro j u hu
      rcases Nat.eq_zero_or_pos m with h0 | h0
      · subst h0
        have hn : news = [] := List.eq_nil_of_length_eq_zero (by simpa using hr.len)
        subst hn
        simp at hu
      · obtain ⟨ad', h, _, _, _, hc⟩ := hr.at_ h0
        injection h with h
        subst h
        exact hc j u hu
    obtain ⟨v', w', hrun, h2, h3, _, h5⟩ := run_append_own_at (P := P) w base t ty e i z size bytes ht hi hz hsize hby hzs hsz v n xs hown ad m c news hr.len hcells h1 h63 hbytes hbase
    exact ⟨v', w', hrun, h2, h3, h5⟩
theorem wpList_append_any {ops : Array Oper} {rest : List Oper} {o : Oper} {a : Act} {Q : Exit → Act → World → Prop} (hgd : o.guard = none) (s x : Operand) (t : TypeId)
    (ho : o.op = .call { callee := .builtin .append, args := #[s, x], argTypes := #[t, t] })
    (base : Nat) (e : TypeId) (i : TypeInfo) (z : Value) (size bytes : Nat) (ht : P.underlying t = some (.slice e)) (hi : P.info? e = some i) (hz : i.zero = some z)
    (hsize : i.size = size) (hby : i.bytes = bytes) (hzs : z.cells.size = size) (hsz : 0 < size)
    (v : Value) (n : Nat) (xs : List Value) (hs : a.eval s = v) (hown : w.ownsRow base e size v n xs)
    (ok : Nat → Prop) (A : Option Addr) (m c : Nat) (news : List Value) (hx : a.eval x = .slice A m c) (hr : ReadsP ok w size A m news) (h1 : ∀ u ∈ news, u.oneCell' = true)
    (h63 : n + m ≤ maxLen) (hbytes : (n + m) * bytes ≤ 140737488355328) (hbase : base ≤ w.heap.size)
    (h : ∀ v' w', w'.ownsRow base e size v' (n + m) (xs ++ news) → w.grownBy w' v.ownBlock → (v'.ownBlock = v.ownBlock ∨ v'.ownBlock = some w.heap.size) → wpList P ops Q rest (a.put o.dst v') w') : wpList P ops Q (o :: rest) a w := by
  refine wpList_plain hgd fun _ hK => ?_
  obtain ⟨v', w', hrun, h2, h3, h4⟩ := run_append_any (P := P) w base t o.type e i z size bytes ht hi hz hsize hby hzs hsz v n xs hown ok A m c news hr h1 h63 hbytes hbase
  unfold Oper.wp execOp
  simp only [ho, resolve, invoke, builtin, Sem.run_bind, Sem.run_pure, Result.andThen_ok, List.map_toArray, List.map_cons, List.map_nil, hs, hx, hrun]
  exact hK _ _ (h v' w' h2 h3 h4)
end
theorem int_any (n : Int) (w : World) : Calls Tryd.prog 37 #[.int .i64 n] w fun e w' => e = .returned (.agg #[.int .i64 1, .int .i64 n, .string ⟨#[]⟩, .slice none 0 0]) ∧ Below w.heap.size w w' := by
  go_enter Tryd.func37, Tryd.ntmps37
  go_wp2
  refine bodyPost_ret (v := .agg #[.int .i64 1, .int .i64 n, .string ⟨#[]⟩, .slice none 0 0]) (by simp [results, Tryd.results37, go_sem]) rfl ⟨rfl, ?_⟩
  exact (Below.refl _ _).alloc (Nat.le_refl _) _
theorem below_new {w w1 : World} {o : Obj} (hb : Below (w.alloc o).heap.size (w.alloc o) w1) : Below w.heap.size w w1 := ((Below.refl _ _).alloc (Nat.le_refl _) _).trans (hb.mono (by simp))
theorem below_of_grown {w w' : World} {row : Option Nat} (hg : w.grownBy w' row) (hr : row = none) : Below w.heap.size w w' := ⟨hg.os, hg.tape, hg.output, hg.size, fun k hk => hg.block k hk (by rw [hr]; simp)⟩
theorem clone_any (s : ByteArray) (hs : s.size ≤ 1000000000) (w : World) : Calls Tryd.prog 66 #[.string s] w fun e w' => e = .returned (.string s) ∧ Below w.heap.size w w' := by
  go_enter Tryd.func66, Tryd.ntmps66
  go_wp2_with (go_at_call 74; refine (Tryd.stringslite_Clone s _ (by omega)).mono ?_; rintro e w1 ⟨rfl, hb⟩)
  go_ret
  exact ⟨rfl, hb⟩
theorem str_any (s : ByteArray) (hs : s.size ≤ 1000000000) (w : World) : Calls Tryd.prog 88 #[.string s] w fun e w' => e = .returned (.agg #[.int .i64 2, .int .i64 0, .string s, .slice none 0 0]) ∧ Below w.heap.size w w' := by
  go_enter Tryd.func88, Tryd.ntmps88
  go_wp2_with fail
  refine (clone_any s hs _).mono ?_
  rintro e w1 ⟨rfl, hb⟩
  obtain ⟨hc, hf⟩ := bcell hb
  have hz : w.heap.size < w1.heap.size := by have := hb.size; simp at this; omega
  go_wp2_with fail
  refine bodyPost_ret (v := .agg #[.int .i64 2, .int .i64 0, .string s, .slice none 0 0]) (by simp [results, Tryd.results88, go_sem, hc, hz]) rfl ⟨rfl, ?_⟩
  exact ((((below_new hb).setCell (by simp) _).setCell (by simp) _).setCell (by simp) _).setCell (by simp) _
theorem list_any (A : Option Addr) (n c : Nat) (ok : Nat → Prop) (xs : List Value) (w : World) (hr : ReadsP ok w 4 A n xs) (hn : n ≤ 1000000000) (h1 : ∀ u ∈ xs, u.oneCell' = true) : Calls Tryd.prog 38 #[.slice A n c] w fun e w' => ∃ v, e = .returned (.agg #[.int .i64 3, .int .i64 0, .string ⟨#[]⟩, v]) ∧ w'.ownsRow (w.heap.size + 1) 47 4 v n xs ∧ Below w.heap.size w w' := by
  obtain ⟨i0, hi, hz0, hz1, hz2⟩ := info_parts value_row
  go_enter Tryd.func38, Tryd.ntmps38
  go_wp2_with (at_builtin; refine wpList_append_any _ rfl _ (.tmp 3) 45 rfl (w.heap.size + 1) 47 i0 _ 4 56 Tryd.underlying45 hi hz0 hz1 hz2 rfl (by decide) (.slice none 0 0) 0 [] rfl (World.ownsRow_nil ..) ok A n c xs rfl (hr.keep (Keeps.of_below ((Below.refl w.heap.size w).alloc (Nat.le_refl _) _) (fun b _ h => h))) h1 (by unfold maxLen; omega) (by omega) (by simp) ?_; intro v' w1 hown hg _; rw [Nat.zero_add, List.nil_append] at hown; obtain ⟨A', c', rfl, _, _⟩ := own_shape hown; have hb := below_of_grown hg rfl; obtain ⟨hc, hf⟩ := bcell hb; have hz : w.heap.size < w1.heap.size := (by have := hb.size; simp at this; omega))
  refine bodyPost_ret (v := .agg #[.int .i64 3, .int .i64 0, .string ⟨#[]⟩, .slice A' n c']) (by simp [results, Tryd.results38, go_sem, hc, hz]) rfl ⟨_, rfl, ?_, ?_⟩
  · exact ownsRow_setCell_below (ownsRow_setCell_below (ownsRow_setCell_below (ownsRow_setCell_below hown (by simp) _) (by simp) _) (by simp) _) (by simp) _
  · exact ((((below_new hb).setCell (by simp) _).setCell (by simp) _).setCell (by simp) _).setCell (by simp) _
end Go.Proofs.YtcbkgcnajplagaaDoor.Be
end
section
set_option linter.unusedVariables false
set_option linter.unusedSimpArgs false
namespace Go.Proofs.YtcbkgcnajplagaaDoor.Be
open Go Go.RowKit

/-- A value by value reads as a tree. -/
def RdA (ok : Nat → Prop) (w : World) (t : T) (v : Value) : Prop := ∃ A c xs, v = .agg #[.int .i64 t.k, .int .i64 t.n, .string t.s, .slice A t.l.length c] ∧ t.s.size ≤ maxLen ∧ t.l.length ≤ c ∧ c ≤ maxLen ∧ ReadsP ok w 4 A t.l.length xs ∧ RdL ok w t.l xs
theorem RdA.rd {ok : Nat → Prop} {w : World} {t : T} {v : Value} (h : RdA ok w t v) : ∃ A c, v = .agg #[.int .i64 t.k, .int .i64 t.n, .string t.s, .slice A t.l.length c] ∧ Rd ok w t [.int .i64 t.k, .int .i64 t.n, .string t.s, .slice A t.l.length c] := by
  obtain ⟨A, c, xs, h1, h2, h3, h4, h5, h6⟩ := h
  cases t
  exact ⟨A, c, h1, by rw [Rd]; exact ⟨A, c, xs, rfl, h2, h3, h4, h5, h6⟩⟩
theorem RdA.keep {ok : Nat → Prop} {w w' : World} {t : T} {v : Value} (h : RdA ok w t v) (k : Keeps ok w w') : RdA ok w' t v := by
  obtain ⟨A, c, xs, h1, h2, h3, h4, h5, h6⟩ := h
  exact ⟨A, c, xs, h1, h2, h3, h4, h5.keep k, RdL.keep k _ _ h6⟩
theorem RdA.mono {ok ok' : Nat → Prop} {w : World} {t : T} {v : Value} (h : RdA ok w t v) (k : ∀ b, ok b → b < w.heap.size → ok' b) : RdA ok' w t v := by
  obtain ⟨A, c, xs, h1, h2, h3, h4, h5, h6⟩ := h
  exact ⟨A, c, xs, h1, h2, h3, h4, h5.mono k, RdL.mono k _ _ h6⟩
/-- One value more in a row of the call's own. -/
theorem rdl_more {B : Nat} {w0 w1 w2 : World} {v v' : Value} {t : T} {ts : List T} {xs cs : List Value} (h : RdL (fun b => B ≤ b ∧ some b ≠ v.ownBlock) w1 ts xs)
    (ht : Rd (fun b => w0.heap.size ≤ b) w1 t cs) (hB : B ≤ w0.heap.size) (hlt : ∀ k, v.ownBlock = some k → k < w0.heap.size)
    (hgr : w1.grownBy w2 v.ownBlock) (hb : v'.ownBlock = v.ownBlock ∨ ∀ k, v'.ownBlock = some k → w1.heap.size ≤ k) : RdL (fun b => B ≤ b ∧ some b ≠ v'.ownBlock) w2 (ts ++ [t]) (xs ++ cs) := by
  refine RdL.snoc ?_ ?_
  · have k2 : Keeps (fun b => w0.heap.size ≤ b ∧ b < w1.heap.size) w1 w2 := Keeps.of_grown hgr (fun b hb e => by have := hlt _ e.symm; omega)
    have h3 := Rd.mono (ok' := fun b => w0.heap.size ≤ b ∧ b < w1.heap.size) (fun b hb hl => ⟨hb, hl⟩) _ _ ht
    refine Rd.mono ?_ _ _ (Rd.keep k2 _ _ h3)
    intro b hb' _
    refine ⟨by omega, fun e => ?_⟩
    rcases hb with h5 | h5
    · have := hlt _ (h5.symm.trans e.symm); omega
    · have := h5 b e.symm; omega
  · have k2 : Keeps (fun b => (B ≤ b ∧ some b ≠ v.ownBlock) ∧ b < w1.heap.size) w1 w2 := Keeps.of_grown hgr (fun b hb e => hb.1.2 e)
    have h4 := RdL.mono (ok' := fun b => (B ≤ b ∧ some b ≠ v.ownBlock) ∧ b < w1.heap.size) (fun b hb hl => ⟨hb, hl⟩) _ _ h
    refine RdL.mono ?_ _ _ (RdL.keep k2 _ _ h4)
    intro b hb' _
    refine ⟨hb'.1.1, fun e => ?_⟩
    rcases hb with h5 | h5
    · exact hb'.1.2 (e.trans h5)
    · have := h5 b e.symm; omega
theorem sz_mem {k n : Int} {s : ByteArray} {l : List T} {u : T} (h : u ∈ l) : SizeOf.sizeOf u < SizeOf.sizeOf (T.mk k n s l) := by
  have := List.sizeOf_lt_of_mem h
  simp
  omega
theorem tidyL_len : ∀ l : List T, (tidyL l).length = l.length
  | [] => rfl
  | t :: ts => by simp [tidyL, tidyL_len ts]
theorem tidyL_snoc : ∀ (l : List T) (t : T), tidyL (l ++ [t]) = tidyL l ++ [tidy t]
  | [], t => rfl
  | u :: us, t => by simp [tidyL, tidyL_snoc us t]
mutual
/-- No string is very long. -/
def limT : T → Bool
  | .mk _ _ s l => decide (s.size ≤ 1000000000) && limL l
def limL : List T → Bool
  | [] => true
  | t :: ts => limT t && limL ts
end
theorem limL_mem : ∀ {l : List T} {u : T}, limL l = true → u ∈ l → limT u = true
  | t :: ts, u, h, hu => by
    simp only [limL, Bool.and_eq_true] at h
    rcases List.mem_cons.1 hu with rfl | hu
    · exact h.1
    · exact limL_mem h.2 hu
def VOPost (t : T) (w : World) (e : Ending) (w' : World) : Prop := ∃ v', e = .returned v' ∧ RdA (fun b => w.heap.size ≤ b) w' (tidy t) v' ∧ Below w.heap.size w w'
theorem tidy_int (n : Int) (s : ByteArray) (l : List T) : tidy (.mk 1 n s l) = .mk 1 n .empty [] := by rw [tidy, if_pos rfl]
theorem tidy_text (n : Int) (s : ByteArray) (l : List T) : tidy (.mk 2 n s l) = .mk 2 0 s [] := by rw [tidy, if_neg (by decide), if_pos rfl]
theorem tidy_list (n : Int) (s : ByteArray) (l : List T) : tidy (.mk 3 n s l) = .mk 3 0 .empty (tidyL l) := by rw [tidy, if_neg (by decide), if_neg (by decide)]

theorem Keeps.setCell {ok : Nat → Prop} {a w : World} (h : Keeps ok a w) (p : Addr) (hp : ¬ ok p.block) (u : Value) : Keeps ok a (w.setCell p u) :=
  ⟨by simpa using h.1, fun b hb hl => by
    rw [Below.heap_setCell w p u b (by rintro rfl; exact hp hb)]
    exact h.2 b hb hl⟩
/-- A block that is a value's cell. -/
theorem val_block {w : World} {b : Nat} {c0 c1 c2 c3 : Value} (h : w.heap[b]? = some (.cells #[c0, c1, c2, c3] 47 (0, 0))) : w.cell? ⟨b, 0, none⟩ = some c0 ∧ w.cell? ⟨b, 1, none⟩ = some c1 ∧ w.cell? ⟨b, 2, none⟩ = some c2 ∧ w.cell? ⟨b, 3, none⟩ = some c3 ∧ (∀ o, w.frozen? ⟨b, o, none⟩ = false) := by
  simp [World.cell?, World.frozen?, h]
/-- What holds at the head of each round: the values so far. -/
structure VRel (l : List T) (w0 : World) (v : Value) (wr : World) (k : Nat) (xs : List Value) : Prop where
  own : wr.ownsRow w0.heap.size 47 4 v k xs
  bel : Below w0.heap.size w0 wr
  rdl : RdL (fun b => w0.heap.size ≤ b ∧ some b ≠ v.ownBlock) wr (tidyL (l.take k)) xs
theorem VRel.step {l : List T} {w0 : World} {v v' : Value} {wr w1 w2 : World} {k : Nat} {xs cs : List Value} (h : VRel l w0 v wr k xs) (hk : k < l.length) (hb1 : Below wr.heap.size wr w1)
    (ht : Rd (fun b => wr.heap.size ≤ b) w1 (tidy l[k]) cs) (hown : w2.ownsRow w0.heap.size 47 4 v' (k + 1) (xs ++ cs)) (hgr : w1.grownBy w2 v.ownBlock) (hb : v'.ownBlock = v.ownBlock ∨ ∀ k, v'.ownBlock = some k → w1.heap.size ≤ k) : VRel l w0 v' w2 (k + 1) (xs ++ cs) := by
  have hlt := own_lt h.own
  have hs := h.bel.size
  have hs1 := hb1.size
  refine ⟨hown, ?_, ?_⟩
  · exact (h.bel.trans (hb1.mono hs)).grown hgr (by omega) (fun g hg => (hlt g hg).1)
  · rw [List.take_succ_eq_append_getElem hk, tidyL_snoc]
    refine rdl_more (w0 := wr) (RdL.keep ?_ _ _ h.rdl) ht hs (fun g hg => (hlt g hg).2) hgr hb
    exact Keeps.of_below hb1 (fun b _ hb => hb)
set_option maxRecDepth 100000 in
set_option maxHeartbeats 8000000 in
theorem valueOf_of (N : Nat) : ∀ (t : T) (v : Value) (ok : Nat → Prop) (w : World), SizeOf.sizeOf t < N → Hv ok w t v → limT t = true → Calls Tryd.prog 76 #[v] w (VOPost t w) := by
  induction N with
  | zero => intro t v ok w h; omega
  | succ N ih =>
    intro t v ok w hN hv hlim
    obtain ⟨k, n, s, l⟩ := t
    simp only [limT, Bool.and_eq_true, decide_eq_true_eq] at hlim
    rw [Hv] at hv
    rcases hv with ⟨rfl, rfl⟩ | ⟨rfl, rfl⟩ | ⟨rfl, A, c, xs, rfl, hll, hr, hl⟩
    · have as0 := as_3_3 (.int .i64 n)
      have HT := Lib.hid (tidy_int n s l)
      go_enter Tryd.func76, Tryd.ntmps76
      go_wp2_with fail
      refine (int_any n _).mono ?_
      rintro e w1 ⟨rfl, hb⟩
      obtain ⟨hc, hf⟩ := bcell hb
      have hz : w.heap.size < w1.heap.size := by have := hb.size; simp at this; omega
      go_wp2_with fail
      refine bodyPost_ret (v := .agg #[.int .i64 1, .int .i64 n, .string ⟨#[]⟩, .slice none 0 0]) (by simp [results, Tryd.results76, go_sem, hc, hz]) rfl ⟨_, rfl, ?_, ?_⟩
      · rw [HT.out]
        exact ⟨none, 0, [], rfl, by simp [T.s, maxLen], by simp [T.l], by simp [maxLen], ReadsP.none_, rfl⟩
      · exact ((((below_new hb).setCell (by simp) _).setCell (by simp) _).setCell (by simp) _).setCell (by simp) _
    · have as0 := as_9_3 (.string s)
      have as1 := as_9_9 (.string s)
      have HT := Lib.hid (tidy_text n s l)
      go_enter Tryd.func76, Tryd.ntmps76
      go_wp2_with fail
      refine (str_any s hlim.1 _).mono ?_
      rintro e w1 ⟨rfl, hb⟩
      obtain ⟨hc, hf⟩ := bcell hb
      have hz : w.heap.size < w1.heap.size := by have := hb.size; simp at this; omega
      go_wp2_with fail
      refine bodyPost_ret (v := .agg #[.int .i64 2, .int .i64 0, .string s, .slice none 0 0]) (by simp [results, Tryd.results76, go_sem, hc, hz]) rfl ⟨_, rfl, ?_, ?_⟩
      · rw [HT.out]
        exact ⟨none, 0, [], rfl, by have := hlim.1; simp [T.s, maxLen]; omega, by simp [T.l], by simp [maxLen], ReadsP.none_, rfl⟩
      · exact ((((below_new hb).setCell (by simp) _).setCell (by simp) _).setCell (by simp) _).setCell (by simp) _
    · have as0 := as_63_3 (.slice A l.length c)
      have as1 := as_63_9 (.slice A l.length c)
      have as2 := as_63_63 (.slice A l.length c)
      have HT := Lib.hid (tidy_list n s l)
      generalize hlen : l.length = len at *
      have HLEN := Lib.hid hlen
      clear hlen
      go_enter Tryd.func76, Tryd.ntmps76
      go_wp2_with fail
      have hb0 : Below w.heap.size w (w.alloc (.cells #[.int .i64 0, .int .i64 0, .string ⟨#[]⟩, .slice none 0 0] 47)) := (Below.refl _ _).alloc (Nat.le_refl _) _
      have hz0 : w.heap.size < (w.alloc (.cells #[.int .i64 0, .int .i64 0, .string ⟨#[]⟩, .slice none 0 0] 47)).heap.size := by simp
      have hblk := heap_alloc_new w (.cells #[.int .i64 0, .int .i64 0, .string ⟨#[]⟩, .slice none 0 0] 47)
      generalize w.alloc (.cells #[.int .i64 0, .int .i64 0, .string ⟨#[]⟩, .slice none 0 0] 47) = w0 at hb0 hz0 hblk
      have HBLK := Lib.hid hblk
      clear hblk
      go_loopw [6, 25] (fun v i wr => ∃ (k : Nat) (xs' : List Value), i = .int .i64 (k : Int) ∧ k ≤ len ∧ VRel l w0 v wr k xs') (fun _ i _ => len - (intOf i).toNat)
      case atStart => exact ⟨0, [], rfl, Nat.zero_le _, World.ownsRow_nil .., Below.refl _ _, rfl⟩
      case round =>
        obtain ⟨k, xs', rfl, hk, hV⟩ := hrel
        have hbw : Below w.heap.size w wr := hb0.trans (hV.bel.mono (by omega))
        by_cases hlt : k < len
        · have hkl : k < l.length := by have := HLEN.out; omega
          have hltz : (k : Int) < (len : Int) := by omega
          obtain ⟨y, hy, hxy⟩ := HvL.get hl hkl
          obtain ⟨ad, hA, hbk, hblt, _, hcell⟩ := hr.at_ (by omega)
          subst hA
          have hc : wr.cell? (ad.add k) = some y := by
            rw [hbw.cell (by rw [block_of_add]; exact hblt)]
            exact hcell k y hxy
          have hy' := Hv.keep (Keeps.of_below hbw (fun b _ h => h)) _ _ hy
          have hmem : l[k] ∈ l := List.getElem_mem _
          have hszk : SizeOf.sizeOf l[k] < N := by have := sz_mem (k := 3) (n := n) (s := s) hmem; omega
          have hlk := limL_mem hlim.2 hmem
          clear hxy hcell hy
          go_wp2_with fail
          refine (ih l[k] y ok _ hszk hy' hlk).mono ?_
          rintro e w1 ⟨v', rfl, hRA, hb1⟩
          obtain ⟨A', c', rfl, hRd⟩ := hRA.rd
          have hs1 : w0.heap.size ≤ w1.heap.size := Nat.le_trans hV.bel.size hb1.size
          have hown1 : w1.ownsRow w0.heap.size 47 4 u6 k xs' := hV.own.kept (grown_below hb1 none) (by
            cases h : u6.ownBlock with
            | none => exact .inl rfl
            | some g => exact .inr (by simp))
          go_wp2_with (at_builtin; refine append_value rfl (.tmp 29) (.tmp 32) rfl w0.heap.size _ k xs' _ _ _ _ (Rd.one _ _ hRd) rfl hown1 rfl (by omega) hs1 ?_; intro v2 w2 hown2 hgr2 hob2)
          go_roundw
          case rel => exact ⟨k + 1, _, by go_num, by omega, hV.step hkl hb1 hRd hown2 hgr2 hob2⟩
          case measure => simp [intOf]; omega
        · obtain rfl : k = len := by omega
          have htk : l.take k = l := List.take_of_length_le (by have := HLEN.out; omega)
          have hrdl := hV.rdl
          rw [htk] at hrdl
          clear htk
          have hown := hV.own
          obtain ⟨A2, c2, rfl, _, _⟩ := own_shape hown
          have hsz2 := hV.bel.size
          go_wp2_with fail
          refine (list_any A2 k c2 _ xs' _ (ReadsP.of_own hown) (by omega) (RdL.one _ _ hrdl)).mono ?_
          rintro e w3 ⟨v3, rfl, hown3, hb3⟩
          obtain ⟨A3, c3, rfl, hkc, hcm⟩ := own_shape hown3
          have hb03 : Below w0.heap.size w0 w3 := hV.bel.trans (hb3.mono hsz2)
          have hblk3 : w3.heap[w.heap.size]? = some (.cells #[.int .i64 0, .int .i64 0, .string ⟨#[]⟩, .slice none 0 0] 47 (0, 0)) := (hb03.block _ hz0).trans HBLK.out
          obtain ⟨e0, e1, e2, e3, ef⟩ := val_block hblk3
          have hbw3 : Below w.heap.size w w3 := hb0.trans (hb03.mono (by omega))
          have hz3 : w.heap.size < w3.heap.size := Nat.lt_of_lt_of_le hz0 hb03.size
          go_wp2_with fail
          have hfin : Below w.heap.size w ((((w3.setCell ⟨w.heap.size, 0, none⟩ (.int .i64 3)).setCell ⟨w.heap.size, 1, none⟩ (.int .i64 0)).setCell ⟨w.heap.size, 2, none⟩ (.string ⟨#[]⟩)).setCell ⟨w.heap.size, 3, none⟩ (.slice A3 k c3)) := (((hbw3.setCell (Nat.le_refl _) _).setCell (Nat.le_refl _) _).setCell (Nat.le_refl _) _).setCell (Nat.le_refl _) _
          have hown4 := ownsRow_setCell_below (ownsRow_setCell_below (ownsRow_setCell_below (ownsRow_setCell_below hown3 (a := ⟨w.heap.size, 0, none⟩) (by simp; omega) (.int .i64 3)) (a := ⟨w.heap.size, 1, none⟩) (by simp; omega) (.int .i64 0)) (a := ⟨w.heap.size, 2, none⟩) (by simp; omega) (.string ⟨#[]⟩)) (a := ⟨w.heap.size, 3, none⟩) (by simp; omega) (.slice A3 k c3)
          refine bodyPost_ret (v := .agg #[.int .i64 3, .int .i64 0, .string ⟨#[]⟩, .slice A3 k c3]) (by simp [results, Tryd.results76, go_sem, e0, e1, e2, e3, hz3]) rfl ⟨_, rfl, ?_, hfin⟩
          rw [HT.out]
          have hlen : (tidyL l).length = k := by rw [tidyL_len]; exact HLEN.out
          refine ⟨A3, c3, xs', by simp only [T.k, T.n, T.s, T.l, hlen]; rfl, by simp [T.s, maxLen], by simp only [T.l, hlen]; exact hkc, hcm, ?_, ?_⟩
          · simp only [T.l, hlen]
            exact (ReadsP.of_own hown4).mono (fun b hb _ => by omega)
          · simp only [T.l]
            have k0 : Keeps (fun b => w0.heap.size ≤ b) wr w3 := Keeps.of_below hb3 (fun b _ h => h)
            have k1 := (((k0.setCell ⟨w.heap.size, 0, none⟩ (by simp; omega) (.int .i64 3)).setCell ⟨w.heap.size, 1, none⟩ (by simp; omega) (.int .i64 0)).setCell ⟨w.heap.size, 2, none⟩ (by simp; omega) (.string ⟨#[]⟩)).setCell ⟨w.heap.size, 3, none⟩ (by simp; omega) (.slice A3 k c3)
            exact RdL.mono (fun b hb _ => by omega) _ _ (RdL.keep k1 _ _ (RdL.mono (fun b hb _ => hb.1) _ _ hrdl))
theorem valueOf_any (t : T) (v : Value) (ok : Nat → Prop) (w : World) (hv : Hv ok w t v) (hl : limT t = true) : Calls Tryd.prog 76 #[v] w (VOPost t w) := valueOf_of (SizeOf.sizeOf t + 1) t v ok w (by omega) hv hl
end Go.Proofs.YtcbkgcnajplagaaDoor.Be
end
section
set_option linter.unusedVariables false
set_option linter.unusedSimpArgs false
namespace Go.Proofs.YtcbkgcnajplagaaDoor.Be
open Go Go.RowKit

/-- A block that is a writer: its bytes lie in a row of the call's own. -/
structure WrAt (w : World) (Wb B : Nat) (v : Value) (bs : List UInt8) : Prop where
  blk : w.heap[Wb]? = some (.cells #[v] 74 (0, 0))
  own : w.ownsRow B 5 1 v bs.length (Lib.byteCells bs)
  lt : Wb < B
  le : B ≤ w.heap.size
theorem WrAt.cell {w : World} {Wb B : Nat} {v : Value} {bs : List UInt8} (h : WrAt w Wb B v bs) : w.cell? ⟨Wb, 0, none⟩ = some v ∧ w.frozen? ⟨Wb, 0, none⟩ = false ∧ Wb < w.heap.size := by
  have := h.blk
  refine ⟨by simp [World.cell?, this], by simp [World.frozen?, this], (Array.getElem?_eq_some_iff.1 this).1⟩
theorem WrAt.drewN {w : World} {Wb B : Nat} {v : Value} {bs : List UInt8} (h : WrAt w Wb B v bs) (q : Nat) : WrAt (w.drewN q) Wb B v bs := ⟨h.blk, h.own, h.lt, h.le⟩
theorem WrAt.below {w w' : World} {Wb B : Nat} {v : Value} {bs : List UInt8} (h : WrAt w Wb B v bs) (hb : Below w.heap.size w w') : WrAt w' Wb B v bs :=
  ⟨(hb.block _ h.cell.2.2).trans h.blk, h.own.kept (grown_below hb none) (by
    cases hx : v.ownBlock with
    | none => exact .inl rfl
    | some g => exact .inr (by simp)), h.lt, Nat.le_trans h.le hb.size⟩
/-- Where the row has grown, the writer's block is as it was. -/
theorem WrAt.grown {w w1 : World} {Wb B : Nat} {v : Value} {bs : List UInt8} (h : WrAt w Wb B v bs) (hg : w.grownBy w1 v.ownBlock) : w1.heap[Wb]? = some (.cells #[v] 74 (0, 0)) := by
  rw [hg.block Wb h.cell.2.2 (fun e => by have := (h.own.lt _ e.symm).1; have := h.lt; omega)]
  exact h.blk
theorem blk_cell {w : World} {Wb : Nat} {v : Value} (h : w.heap[Wb]? = some (.cells #[v] 74 (0, 0))) : w.cell? ⟨Wb, 0, none⟩ = some v ∧ w.frozen? ⟨Wb, 0, none⟩ = false ∧ Wb < w.heap.size :=
  ⟨by simp [World.cell?, h], by simp [World.frozen?, h], (Array.getElem?_eq_some_iff.1 h).1⟩
/-- .. and the new row is put into it. -/
theorem wr_put {w1 : World} {Wb B : Nat} {v v1 : Value} {bs : List UInt8} (hblk : w1.heap[Wb]? = some (.cells #[v] 74 (0, 0))) (hown : w1.ownsRow B 5 1 v1 bs.length (Lib.byteCells bs)) (hlt : Wb < B) (hle : B ≤ w1.heap.size) : WrAt (w1.setCell ⟨Wb, 0, none⟩ v1) Wb B v1 bs := by
  refine ⟨?_, ownsRow_setCell_below hown (a := ⟨Wb, 0, none⟩) hlt v1, hlt, by simpa using hle⟩
  simp only [World.setCell, Array.getElem?_modify, hblk]
  simp
def Tabs (w : World) (Wb : Nat) : Prop := Lib.TabBelow Tryd.prog Wb w "internal/strconv.uint64pow10" .u64 Lib.pow10Tab
theorem Tabs.on {w w1 : World} {Wb : Nat} (h : Tabs w Wb) (hb : Below Wb w w1) : Tabs w1 Wb := Lib.TabBelow.on h hb
theorem Tabs.up {w : World} {Wb B : Nat} (h : Tabs w Wb) (hB : Wb ≤ B) : Tabs w B := fun w' hb => h w' (hb.mono hB)
theorem fits_any (Wb B : Nat) (v : Value) (bs : List UInt8) (w : World) (h : WrAt w Wb B v bs) : Calls Tryd.prog 59 #[.pointer (some ⟨Wb, 0, none⟩)] w fun e w' => e = .returned (.bool (decide (bs.length ≤ 65536))) ∧ w = w' := by
  obtain ⟨hc, hf, hz⟩ := h.cell
  obtain ⟨A, c, rfl, _⟩ := own_shape h.own
  generalize bs.length = n at *
  go_enter Tryd.func59, Tryd.ntmps59
  go_wp2
  go_ret
  exact ⟨ret_bool (by simp; try omega), rfl⟩
/-- The bytes so far, and more. -/
def WrPost (Wb B : Nat) (bs : List UInt8) (v : Value) (w : World) (e : Ending) (w' : World) : Prop := e = .returned v ∧ (∃ u, WrAt w' Wb B u bs) ∧ Below Wb w w'
theorem append_i64 (Wb B : Nat) (v : Value) (bs : List UInt8) (n : Int) (h0 : -9223372036854775808 ≤ n) (h1 : n ≤ 9223372036854775807) (hl : bs.length ≤ 1000000) (w : World) (h : WrAt w Wb B v bs) (hT : Tabs w Wb) :
    Calls Tryd.prog 70 #[v, .int .i64 n, .int .i64 10] w fun e w' => ∃ v', e = .returned v' ∧ w'.heap[Wb]? = some (.cells #[v] 74 (0, 0)) ∧ w'.ownsRow B 5 1 v' (bs ++ Lib.itoa n).length (Lib.byteCells (bs ++ Lib.itoa n)) ∧ B ≤ w'.heap.size ∧ Below B w w' := by
  refine (Tryd.strconv_AppendInt_10 B bs.length n h0 h1 v (Lib.byteCells bs) w h.own h.le (by omega) (hT.up (Nat.le_of_lt h.lt))).mono ?_
  rintro e w' ⟨v', he, hown, hb, hk⟩
  refine ⟨v', he, (hb.block Wb h.lt).trans h.blk, ?_, Nat.le_trans h.le hb.size, hb⟩
  rw [List.length_append, Lib.byteCells_append]
  exact hown

theorem append_byte_at {ops : Array Oper} {rest : List Oper} {o : Oper} {a : Act} {Q : Exit → Act → World → Prop} {W : World} (hgd : o.guard = none) (s x : Operand)
    (ho : o.op = .call { callee := .builtin .append, args := #[s, x], argTypes := #[40, 40] })
    (base : Nat) (v : Value) (n : Nat) (xs : List Value) (y : Value) (hy : y.oneCell' = true) (hs : a.eval s = v) (hown : W.ownsRow base 5 1 v n xs) (N : Nat) (hN : N = W.heap.size) (hx : a.eval x = .slice (some ⟨N, 0, none⟩) 1 1)
    (hn : n ≤ 1000000000) (hbase : base ≤ W.heap.size)
    (h : ∀ v' w', w'.ownsRow base 5 1 v' (n + 1) (xs ++ [y]) → W.grownBy w' v.ownBlock → (v'.ownBlock = v.ownBlock ∨ ∀ k, v'.ownBlock = some k → W.heap.size ≤ k) → wpList Tryd.prog ops Q rest (a.put o.dst v') w') :
    wpList Tryd.prog ops Q (o :: rest) a (W.alloc (.cells #[y] 5)) := by
  subst hN
  exact append_byte hgd s x ho base v n xs y hy hs hown hx hn hbase h
theorem own_byte {w : World} {B : Nat} {v : Value} {bs : List UInt8} {z : Int} (c : UInt8) (hz : z = (c.toNat : Int)) (h : w.ownsRow B 5 1 v (bs.length + 1) (Lib.byteCells bs ++ [.int .u8 z])) : w.ownsRow B 5 1 v (bs ++ [c]).length (Lib.byteCells (bs ++ [c])) := by
  subst hz
  rw [List.length_append, Lib.byteCells_append]
  exact h
set_option maxRecDepth 100000 in
set_option maxHeartbeats 8000000 in
theorem wnumber_any (Wb B : Nat) (v : Value) (bs : List UInt8) (n : Int) (h0 : -9223372036854775808 ≤ n) (h1 : n ≤ 9223372036854775807) (hl : bs.length ≤ 900000) (w : World) (h : WrAt w Wb B v bs) (hT : Tabs w Wb) :
    Calls Tryd.prog 56 #[.pointer (some ⟨Wb, 0, none⟩), .int .i64 n] w (WrPost Wb B (bs ++ 105 :: (Lib.itoa n ++ [101])) (.tuple #[]) w) := by
  obtain ⟨hc, hf, hz⟩ := h.cell
  have hBs := h.le
  have hlt := h.lt
  go_enter Tryd.func56, Tryd.ntmps56
  go_wp2_with (at_builtin; refine append_byte rfl (.tmp 8) (.tmp 9) rfl B v bs.length _ _ rfl rfl h.own rfl (by omega) hBs ?_; intro v1 w1 hown1 hgr1 hob1; obtain ⟨A1, c1, rfl, _⟩ := own_shape hown1; have hb1 := h.grown hgr1; obtain ⟨k0, k1, k2⟩ := blk_cell hb1)
  have hB1 : B ≤ w1.heap.size := Nat.le_trans hBs hgr1.size
  have hw2 := wr_put hb1 (own_byte 105 rfl hown1) hlt hB1
  have hbel2 : Below Wb w (w1.setCell ⟨Wb, 0, none⟩ (.slice A1 (bs.length + 1) c1)) := ((Below.refl Wb w).grown hgr1 (by omega) (fun k hk => by have := (h.own.lt _ hk).1; omega)).setCell (Nat.le_refl _) _
  generalize w1.setCell ⟨Wb, 0, none⟩ (.slice A1 (bs.length + 1) c1) = w2 at hw2 hbel2
  clear k0 k1 k2
  refine (append_i64 Wb B _ (bs ++ [105]) n h0 h1 (by simp; omega) w2 hw2 (hT.on hbel2)).mono ?_
  rintro e w3 ⟨v3, rfl, hb3, hown3, hB3, hbe3⟩
  obtain ⟨A3, c3, rfl, _⟩ := own_shape hown3
  obtain ⟨k0, k1, k2⟩ := blk_cell hb3
  have hw4 := wr_put hb3 hown3 hlt hB3
  have hbel4 : Below Wb w (w3.setCell ⟨Wb, 0, none⟩ (.slice A3 (bs ++ [105] ++ Lib.itoa n).length c3)) := (hbel2.trans (hbe3.mono (by omega))).setCell (Nat.le_refl _) _
  have hil := itoa_len n h0 h1
  have hown4 := hw4.own
  have hgr4 := fun w5 => hw4.grown (w1 := w5)
  have hLb : (bs ++ [105] ++ Lib.itoa n).length ≤ 1000000 := by simp; omega
  generalize hbs' : bs ++ [105] ++ Lib.itoa n = bs' at *
  have HBS := Lib.hid hbs'
  clear hbs'
  go_wp2_with (at_builtin; refine append_byte_at rfl (.tmp 26) (.tmp 27) rfl B _ bs'.length _ _ rfl rfl hown4 w3.heap.size (by simp) rfl (by omega) (by simp; omega) ?_; intro v5 w5 hown5 hgr5 hob5; obtain ⟨A5, c5, rfl, _⟩ := own_shape hown5; have hb5 := hgr4 _ hgr5; obtain ⟨k3, k4, k5⟩ := blk_cell hb5)
  have hB5 : B ≤ w5.heap.size := by have := hgr5.size; have := hw4.le; omega
  have hw6 := wr_put hb5 (own_byte 101 rfl hown5) hlt hB5
  have hbel6 : Below Wb w (w5.setCell ⟨Wb, 0, none⟩ (.slice A5 (bs'.length + 1) c5)) := (hbel4.grown hgr5 (by have := hw4.le; omega) (fun k hk => by have := (hown4.lt _ hk).1; omega)).setCell (Nat.le_refl _) _
  go_end0
  have e : bs ++ 105 :: (Lib.itoa n ++ [101]) = bs' ++ [101] := by rw [← HBS.out]; simp
  rw [← e] at hw6
  exact ⟨rfl, ⟨_, hw6⟩, hbel6⟩
theorem strCells_eq (s : ByteArray) : Lib.strCells s = Lib.byteCells s.data.toList := rfl
theorem wpList_append_string {P : Program} {w : World} {ops : Array Oper} {rest : List Oper} {o : Oper} {a : Act} {Q : Exit → Act → World → Prop} (hgd : o.guard = none) (s x : Operand) (t u : TypeId)
    (ho : o.op = .call { callee := .builtin .append, args := #[s, x], argTypes := #[t, u] })
    (base : Nat) (e : TypeId) (i : TypeInfo) (ht : P.underlying t = some (.slice e)) (hu : P.underlying u = some .string) (hi : P.info? e = some i) (hz : i.zero = some (.int .u8 0)) (hsize : i.size = 1) (hby : i.bytes = 1)
    (v : Value) (n : Nat) (xs : List Value) (hs : a.eval s = v) (hown : w.ownsRow base e 1 v n xs) (y : ByteArray) (hx : a.eval x = .string y)
    (h63 : n + y.size ≤ maxLen) (hbytes : n + y.size ≤ 140737488355328) (hbase : base ≤ w.heap.size)
    (h : ∀ v' w', w'.ownsRow base e 1 v' (n + y.size) (xs ++ Lib.strCells y) → w.grownBy w' v.ownBlock → wpList P ops Q rest (a.put o.dst v') w') : wpList P ops Q (o :: rest) a w := by
  refine wpList_plain hgd fun _ hK => ?_
  obtain ⟨v', w', hrun, h2, h3, _⟩ := Lib.run_append_own_string (P := P) w base t u o.type e i ht hu hi hz hsize hby v n xs hown y h63 hbytes hbase
  unfold Oper.wp execOp
  simp only [ho, resolve, invoke, builtin, Sem.run_bind, Sem.run_pure, Result.andThen_ok, List.map_toArray, List.map_cons, List.map_nil, hs, hx, hrun]
  exact hK _ _ (h v' w' h2 h3)
theorem own_len {w : World} {B : Nat} {e : TypeId} {v : Value} {n m : Nat} {xs : List Value} (h : n = m) (hown : w.ownsRow B e 1 v n xs) : w.ownsRow B e 1 v m xs := by
  subst h
  exact hown
theorem text_end {w4 w5 : World} {Wb B : Nat} {v4 v5 : Value} {bs bs' bf : List UInt8} {s : ByteArray} (hbs : bs ++ Lib.itoa s.size = bs') (hbf : bs ++ (Lib.itoa s.size ++ 58 :: s.data.toList) = bf) (hw4 : WrAt w4 Wb B v4 (bs' ++ [58]))
    (hown5 : w5.ownsRow B 5 1 v5 (bs'.length + 1 + s.size) (Lib.byteCells (bs' ++ [58]) ++ Lib.strCells s)) (hb5 : w5.heap[Wb]? = some (.cells #[v4] 74 (0, 0))) (hgr5 : w4.grownBy w5 v4.ownBlock) : WrAt (w5.setCell ⟨Wb, 0, none⟩ v5) Wb B v5 bf := by
  have e : bf = bs' ++ [58] ++ s.data.toList := by rw [← hbf, ← hbs]; simp
  have el : bf.length = bs'.length + 1 + s.size := by rw [e]; simp; omega
  refine wr_put hb5 ?_ hw4.lt (Nat.le_trans hw4.le hgr5.size)
  rw [el, e, Lib.byteCells_append (bs' ++ [58])]
  exact hown5
/-- Whether it may be, and, if so, the bytes so far. -/
def WVPost (Wb B : Nat) (good : Bool) (bs : List UInt8) (w : World) (e : Ending) (w' : World) : Prop := e = .returned (.bool good) ∧ (good = true → ∃ u, WrAt w' Wb B u bs) ∧ Below Wb w w'
set_option maxRecDepth 100000 in
set_option maxHeartbeats 8000000 in
theorem wtext_any (Wb B : Nat) (v : Value) (bs : List UInt8) (s : ByteArray) (hsm : s.size ≤ 9223372036854775807) (hl : bs.length ≤ 70000) (w : World) (h : WrAt w Wb B v bs) (hT : Tabs w Wb) :
    Calls Tryd.prog 57 #[.pointer (some ⟨Wb, 0, none⟩), .string s] w (WVPost Wb B (decide ((bs ++ (Lib.itoa s.size ++ 58 :: s.data.toList)).length ≤ 65536)) (bs ++ (Lib.itoa s.size ++ 58 :: s.data.toList)) w) := by
  obtain ⟨hc, hf, hz⟩ := h.cell
  have hBs := h.le
  have hlt := h.lt
  by_cases hlong : 65536 < s.size
  · have hd : decide ((bs ++ (Lib.itoa s.size ++ 58 :: s.data.toList)).length ≤ 65536) = false := decide_eq_false (by simp only [List.length_append, List.length_cons, Array.length_toList]; have : s.data.size = s.size := rfl; omega)
    rw [hd]
    have hlz : (65536 : Int) < (s.size : Int) := by omega
    go_enter Tryd.func57, Tryd.ntmps57
    go_wp2_with fail
    go_ret
    exact ⟨rfl, fun h => by simp at h, Below.refl _ _⟩
  · have hlz : ¬ (65536 : Int) < (s.size : Int) := by omega
    have hil := itoa_len (s.size : Int) (by omega) (by omega)
    generalize hbf : bs ++ (Lib.itoa s.size ++ 58 :: s.data.toList) = bf
    have HBF := Lib.hid hbf
    clear hbf
    go_enter Tryd.func57, Tryd.ntmps57
    go_wp2_with fail
    refine (append_i64 Wb B v bs (s.size : Int) (by omega) (by omega) (by omega) w h hT).mono ?_
    rintro e w1 ⟨v1, rfl, hb1, hown1, hB1, hbe1⟩
    obtain ⟨A1, c1, rfl, _⟩ := own_shape hown1
    obtain ⟨k0, k1, k2⟩ := blk_cell hb1
    have hw2 := wr_put hb1 hown1 hlt hB1
    have hbel2 : Below Wb w (w1.setCell ⟨Wb, 0, none⟩ (.slice A1 (bs ++ Lib.itoa s.size).length c1)) := (hbe1.mono (B' := Wb) (Nat.le_of_lt hlt)).setCell (Nat.le_refl _) _
    have hown2 := hw2.own
    have hgr2 := fun w5 => hw2.grown (w1 := w5)
    have hLb : (bs ++ Lib.itoa s.size).length ≤ 1000000 := by simp; omega
    generalize hbs' : bs ++ Lib.itoa s.size = bs' at *
    have HBS := Lib.hid hbs'
    clear hbs'
    obtain ⟨i0, hi, hz0, hz1, hz2⟩ := info_parts byte_row
    go_wp2_with (first
      | (at_builtin; refine append_byte_at rfl (.tmp 22) (.tmp 23) rfl B _ bs'.length _ _ rfl rfl hown2 w1.heap.size (by simp) rfl (by omega) (by simp; omega) ?_; intro v3 w3 hown3 hgr3 hob3; obtain ⟨A3, c3, rfl, _⟩ := own_shape hown3; have hb3 := hgr2 _ hgr3; obtain ⟨k3, k4, k5⟩ := blk_cell hb3; have hB3 : B ≤ w3.heap.size := (by have := hgr3.size; have := hw2.le; omega); have hw4 := wr_put hb3 (own_byte 58 rfl hown3) hlt hB3; have hown4 := own_len (show (bs' ++ [58]).length = bs'.length + 1 by simp) hw4.own)
      | (at_builtin; refine wpList_append_string rfl (.tmp 31) (.tmp 32) 40 9 rfl B 5 i0 Tryd.underlying40 Tryd.underlying9 hi hz0 hz1 hz2 _ (bs'.length + 1) _ rfl hown4 s rfl (by unfold maxLen; omega) (by omega) (by simp; omega) ?_; intro v5 w5 hown5 hgr5; obtain ⟨A5, c5, rfl, _⟩ := own_shape hown5; have hb5 := hw4.grown hgr5; obtain ⟨k6, k7, k8⟩ := blk_cell hb5)
      | (go_at_call 59; refine (fits_any Wb B _ bf _ (text_end HBS.out HBF.out hw4 hown5 hb5 hgr5)).mono ?_; rintro e w' ⟨rfl, rfl⟩))
    have hbel4 : Below Wb w (w3.setCell ⟨Wb, 0, none⟩ (.slice A3 (bs'.length + 1) c3)) := (hbel2.grown hgr3 (by have := hw2.le; omega) (fun k hk => by have := (hown2.lt _ hk).1; omega)).setCell (Nat.le_refl _) _
    have hbel6 : Below Wb w (w5.setCell ⟨Wb, 0, none⟩ (.slice A5 (bs'.length + 1 + s.size) c5)) := (hbel4.grown hgr5 (by have := hw4.le; omega) (fun k hk => by have := (hown4.lt _ hk).1; omega)).setCell (Nat.le_refl _) _
    go_ret
    exact ⟨rfl, fun _ => ⟨_, text_end HBS.out HBF.out hw4 hown5 hb5 hgr5⟩, hbel6⟩
end Go.Proofs.YtcbkgcnajplagaaDoor.Be
end
section
set_option linter.unusedVariables false
set_option linter.unusedSimpArgs false
namespace Go.Proofs.YtcbkgcnajplagaaDoor
open Go Go.RowKit

def hv (c : UInt8) : Int := Lib.indexByte DIG.data.toList c
theorem hv_fin : ∀ k : Fin 256, hv (UInt8.ofNat k.val) = if 48 ≤ k.val ∧ k.val ≤ 57 then (k.val : Int) - 48 else if 97 ≤ k.val ∧ k.val ≤ 102 then (k.val : Int) - 87 else -1 := by decide +kernel
theorem hv_eq (c : UInt8) : hv c = if 48 ≤ c.toNat ∧ c.toNat ≤ 57 then (c.toNat : Int) - 48 else if 97 ≤ c.toNat ∧ c.toNat ≤ 102 then (c.toNat : Int) - 87 else -1 := by
  have := hv_fin ⟨c.toNat, UInt8.toNat_lt c⟩
  simp only [UInt8.ofNat_toNat] at this
  exact this
theorem hv_lt (c : UInt8) : hv c < 16 ∧ -1 ≤ hv c := by
  rw [hv_eq]
  split
  · omega
  · split <;> omega
/-- The number that digits go on to, behind a number so far. -/
def uh : List UInt8 → Nat → Option Nat
  | [], a => some a
  | c :: l, a => if hv c < 0 then none else uh l (16 * a + (hv c).toNat)
def uhRes (l : List UInt8) : Nat × Nat := match uh l 0 with
  | some n => (n, 0)
  | none => (0, 1)
theorem uh_next {l : List UInt8} {k M : Nat} (hk : k < l.length) (h : uh l 0 = uh (l.drop k) M) : uh l 0 = if hv l[k] < 0 then none else uh (l.drop (k + 1)) (16 * M + (hv l[k]).toNat) := by
  rw [h, List.drop_eq_getElem_cons hk, uh]
theorem or_add (M d : Nat) (hd : d < 16) : 16 * M ||| d = 16 * M + d := by
  have := Nat.two_pow_add_eq_or_of_lt (i := 4) hd M
  exact this.symm
theorem pow_step {M k d : Nat} (h : M < 16 ^ k) (hd : d < 16) : 16 * M + d < 16 ^ (k + 1) := by
  rw [Nat.pow_succ]
  omega
theorem pow_small {M k : Nat} (h : M < 16 ^ k) (hk : k < 6) : M < 1048576 := by
  have : 16 ^ k ≤ 16 ^ 5 := Nat.pow_le_pow_right (by omega) (by omega)
  omega
def UPost (l : List UInt8) (w : World) (e : Ending) (w' : World) : Prop := e = .returned (.tuple #[.int .i64 ((uhRes l).1 : Int), .int .i64 ((uhRes l).2 : Int)]) ∧ w = w'
set_option maxHeartbeats 4000000 in
set_option maxRecDepth 100000 in
theorem unhex_six (s : ByteArray) (h6 : s.size = 6) (w : World) : Calls Tryd.prog 73 #[.string s] w (UPost s.data.toList w) := by
  have hz : (s.size : Int) = 6 := by omega
  have H6 := Lib.hid h6
  have hl : s.data.toList.length = 6 := by simpa using h6
  have HL := Lib.hid hl
  clear h6 hl
  go_enter Tryd.func73, Tryd.ntmps73
  go_wp2_with fail
  clear hz
  go_loopw [4, 10] (fun n i wr => ∃ k M : Nat, k ≤ 6 ∧ i = .int .i64 (k : Int) ∧ n = .int .i64 (M : Int) ∧ Hid (uh s.data.toList 0 = uh (s.data.toList.drop k) M) ∧ Hid (M < 16 ^ k) ∧ w = wr) (fun _ i _ => 6 - (intOf i).toNat)
  case atStart => exact ⟨0, 0, by omega, rfl, rfl, Lib.hid rfl, Lib.hid (by decide), rfl⟩
  case round =>
    obtain ⟨k, M, hk, rfl, rfl, HU, HM, rfl⟩ := hrel
    by_cases hk6 : k < 6
    · have hkz : (k : Int) < 6 := by omega
      have hks : (k : Int) < (s.size : Int) := by have := H6.out; omega
      have hkn : k < s.size := by have := H6.out; omega
      have hnx := uh_next (by rw [HL.out]; exact hk6) HU.out
      have hM := pow_small HM.out hk6
      have hbt : (s[k]'hkn).toNat < 256 := UInt8.toNat_lt _
      have hget : s.data.toList[k]'(by rw [HL.out]; exact hk6) = s[k]'hkn := by simp; rfl
      rw [hget] at hnx
      have hcall := fun w => (Tryd.strings_IndexByte DIG ((s[k]'hkn).toNat : Int) w).mono (P := Tryd.prog) (fun e w' h => show e = .returned (.int .i64 (hv (s[k]'hkn))) ∧ w = w' by
        refine ⟨?_, h.2.symm⟩
        rw [h.1]
        simp [hv])
      have hvl := hv_lt (s[k]'hkn)
      have HC := Lib.hid hcall
      have HN := Lib.hid hnx
      generalize hv (s[k]'hkn) = V at *
      clear hget hcall hnx
      unfold DIG at HC
      by_cases hneg : V < 0
      · have hres : uhRes s.data.toList = (0, 1) := by unfold uhRes; rw [HN.out, if_pos hneg]
        have HRES := Lib.hid hres
        clear hres
        go_wp2_with fail
        refine (HC.out w).mono ?_
        rintro e w1 ⟨rfl, rfl⟩
        go_wp2_with fail
        go_ret2
        exact ⟨by rw [HRES.out]; rfl, rfl⟩
      · obtain ⟨d, rfl⟩ : ∃ d : Nat, V = (d : Int) := ⟨V.toNat, by omega⟩
        have hd : d < 16 := by omega
        have hor := i64_or_nat (16 * M) d (by omega) (by omega)
        rw [or_add M d hd] at hor
        have hor2 : bits .or .i64 ((M : Int) * 16) (d : Int) = ((16 * M + d : Nat) : Int) := by
          rw [show (M : Int) * 16 = ((16 * M : Nat) : Int) by omega]
          exact hor
        have hnx := HN.out
        rw [if_neg hneg, show ((d : Int)).toNat = d from rfl] at hnx
        have HU2 := Lib.hid hnx
        have hps := Lib.hid (pow_step HM.out hd)
        obtain ⟨M2, hM2⟩ : ∃ M2 : Nat, M2 = 16 * M + d := ⟨_, rfl⟩
        rw [← hM2] at hor2 HU2 hps
        clear hnx hor hM2 hneg
        go_wp2_with fail
        refine (HC.out w).mono ?_
        rintro e w1 ⟨rfl, rfl⟩
        go_wp2_with fail
        exact ⟨⟨k + 1, M2, by omega, by go_num, rfl, HU2, hps, by trivial⟩, by simp [intOf]; omega⟩
    · obtain rfl : k = 6 := by omega
      have hu := HU.out
      rw [List.drop_eq_nil_of_le (by rw [HL.out]; exact Nat.le_refl _), uh] at hu
      have hres : uhRes s.data.toList = (M, 0) := by unfold uhRes; rw [hu]
      have HRES := Lib.hid hres
      clear hu hres
      go_wp2_with fail
      go_ret2
      exact ⟨by rw [HRES.out]; rfl, rfl⟩
theorem unhex_no (s : ByteArray) (h6 : ¬ s.size = 6) (w : World) : Calls Tryd.prog 73 #[.string s] w fun e w' => e = .returned (.tuple #[.int .i64 0, .int .i64 1]) ∧ w = w' := by
  have hz : ((s.size : Int) != 6) = true := by rw [bne_iff_ne]; omega
  go_enter Tryd.func73, Tryd.ntmps73
  go_wp2_with fail
  go_ret2
  exact ⟨rfl, rfl⟩
def uR (s : ByteArray) : Nat × Nat := if s.size = 6 then uhRes s.data.toList else (0, 1)
def UOut (s : ByteArray) (w : World) (e : Ending) (w' : World) : Prop := e = .returned (.tuple #[.int .i64 ((uR s).1 : Int), .int .i64 ((uR s).2 : Int)]) ∧ w = w'
theorem unhex_any (s : ByteArray) (w : World) : Calls Tryd.prog 73 #[.string s] w (UOut s w) := by
  unfold UOut uR
  by_cases h : s.size = 6
  · rw [if_pos h]
    exact unhex_six s h w
  · rw [if_neg h]
    exact unhex_no s h w
theorem hv_hexD : ∀ k : Fin 16, hv (hexD k.val) = (k.val : Int) := by decide +kernel
theorem uh_digit (k : Nat) (hk : k < 16) (l : List UInt8) (a : Nat) : uh (hexD k :: l) a = uh l (16 * a + k) := by
  have h := hv_hexD ⟨k, hk⟩
  simp only at h
  rw [uh, h, if_neg (by omega)]
  rfl
theorem uh_hexL (N : Nat) (hN : N < 16777216) : uhRes (hexL N) = (N, 0) := by
  have h : uh (hexL N) 0 = some N := by
    unfold hexL
    rw [uh_digit _ (by omega), uh_digit _ (by omega), uh_digit _ (by omega), uh_digit _ (by omega), uh_digit _ (by omega), uh_digit _ (by omega), uh]
    congr 1
    omega
  unfold uhRes
  rw [h]
theorem uR_hexL (N : Nat) (hN : N < 16777216) : uR ⟨(hexL N).toArray⟩ = (N, 0) := by
  unfold uR
  rw [if_pos (by rfl)]
  exact uh_hexL N hN
end Go.Proofs.YtcbkgcnajplagaaDoor
end
section
set_option linter.unusedVariables false
set_option linter.unusedSimpArgs false
namespace Go.Proofs.YtcbkgcnajplagaaDoor
open Go Go.RowKit

/-- The sum of bytes as a number. -/
def sm (l : List UInt8) : Nat := (crcL 0xb704ce#24 l).toNat
theorem sm_lt (l : List UInt8) : sm l < 16777216 := (crcL 0xb704ce#24 l).isLt
/-- A text's frame. -/
def enc (l : List UInt8) : List UInt8 := hexL l.length ++ (hexL (sm l) ++ (124 :: (l ++ [10])))
def encS (s : ByteArray) : ByteArray := ⟨(enc s.data.toList).toArray⟩
theorem hexL_len (N : Nat) : (hexL N).length = 6 := rfl
theorem enc_len (l : List UInt8) : (enc l).length = l.length + 14 := by
  simp only [enc, List.length_append, hexL_len, List.length_cons, List.length_nil]
  omega
theorem size_list (s : ByteArray) : s.data.toList.length = s.size := by simp
theorem bytes_ext {s : ByteArray} {l : List UInt8} (h : s.data.toList = l) : s = ⟨l.toArray⟩ := by rw [← h]
theorem encS_list (s : ByteArray) : (encS s).data.toList = enc s.data.toList := rfl
theorem encS_size (s : ByteArray) : (encS s).size = s.size + 14 := by
  rw [← size_list, encS_list, enc_len, size_list]
theorem encS_eq (s : ByteArray) : ((((⟨(hexL s.size).toArray⟩ : ByteArray) ++ ⟨(hexL (crcS s).toNat).toArray⟩) ++ ⟨#[124]⟩) ++ s) ++ ⟨#[10]⟩ = encS s := by
  refine bytes_ext ?_
  simp only [ByteArray.data_append, Array.toList_append, enc, size_list, List.append_assoc]
  rfl
/-- What a frame's head says. -/
def nL (l : List UInt8) : Nat × Nat := uhRes (l.take 6)
def cL (l : List UInt8) : Nat × Nat := uhRes ((l.drop 6).take 6)
def headOk (l : List UInt8) : Prop := (nL l).2 = 0 ∧ (nL l).1 ≤ 262144 ∧ (cL l).2 = 0 ∧ l.getD 12 0 = 124
instance (l : List UInt8) : Decidable (headOk l) := inferInstanceAs (Decidable (_ ∧ _))
/-- What reading a frame tells: its text, how many bytes, an error's number. -/
def tkL (l : List UInt8) : List UInt8 × Nat × Nat :=
  if l.length < 13 then ([], 0, 21)
  else if ¬ headOk l then ([], 0, 40)
  else if l.length < 14 + (nL l).1 then ([], 0, 21)
  else if l.getD (13 + (nL l).1) 0 ≠ 10 then ([], 0, 40)
  else if sm ((l.drop 13).take (nL l).1) ≠ (cL l).1 then ([], 0, 41)
  else ((l.drop 13).take (nL l).1, 14 + (nL l).1, 0)
def tkV (r : List UInt8 × Nat × Nat) : Value := .tuple #[.string ⟨r.1.toArray⟩, .int .i64 (r.2.1 : Int), .int .i64 (r.2.2 : Int)]
/-- All texts from a place on, so many at the most. -/
def allF (l : List UInt8) : Nat → Nat → List (List UInt8) × Nat
  | 0, at_ => ([], at_)
  | f + 1, at_ => if (tkL (l.drop at_)).2.2 = 0 then ((tkL (l.drop at_)).1 :: (allF l f (at_ + (tkL (l.drop at_)).2.1)).1, (allF l f (at_ + (tkL (l.drop at_)).2.1)).2) else ([], at_)
def alls (l : List UInt8) : List (List UInt8) × Nat := allF l (l.length + 1) 0
theorem allF_ok {l : List UInt8} {f at_ n : Nat} {t : List UInt8} (h : tkL (l.drop at_) = (t, n, 0)) : allF l (f + 1) at_ = (t :: (allF l f (at_ + n)).1, (allF l f (at_ + n)).2) := by
  rw [allF, h, if_pos rfl]
theorem allF_no {l : List UInt8} {f at_ : Nat} (h : (tkL (l.drop at_)).2.2 ≠ 0) : allF l f at_ = ([], at_) := by
  cases f with
  | zero => rfl
  | succ f => rw [allF, if_neg h]
theorem tkL_nil : (tkL []).2.2 ≠ 0 := by decide
/-- What is told lies within. -/
theorem tkL_ok {l t : List UInt8} {n : Nat} (h : tkL l = (t, n, 0)) : 13 ≤ l.length ∧ headOk l ∧ n = 14 + (nL l).1 ∧ n ≤ l.length ∧ l.getD (13 + (nL l).1) 0 = 10 ∧ t = (l.drop 13).take (nL l).1 ∧ sm t = (cL l).1 := by
  unfold tkL at h
  by_cases h1 : l.length < 13
  · rw [if_pos h1] at h; simp at h
  rw [if_neg h1] at h
  by_cases h2 : headOk l
  · rw [if_neg (not_not_intro h2)] at h
    by_cases h3 : l.length < 14 + (nL l).1
    · rw [if_pos h3] at h; simp at h
    rw [if_neg h3] at h
    by_cases h4 : l.getD (13 + (nL l).1) 0 = 10
    · rw [if_neg (not_not_intro h4)] at h
      by_cases h5 : sm ((l.drop 13).take (nL l).1) = (cL l).1
      · rw [if_neg (not_not_intro h5)] at h
        simp only [Prod.mk.injEq] at h
        obtain ⟨rfl, rfl, _⟩ := h
        exact ⟨by omega, h2, rfl, by omega, h4, rfl, h5⟩
      · rw [if_pos h5] at h; simp at h
    · rw [if_pos h4] at h; simp at h
  · rw [if_pos h2] at h; simp at h
theorem tkL_pos {l t : List UInt8} {n : Nat} (h : tkL l = (t, n, 0)) : 14 ≤ n ∧ n ≤ l.length := by
  obtain ⟨_, _, h3, h4, _⟩ := tkL_ok h
  omega
end Go.Proofs.YtcbkgcnajplagaaDoor
end
section
set_option linter.unusedVariables false
set_option linter.unusedSimpArgs false
namespace Go.Proofs.YtcbkgcnajplagaaDoor
open Go Go.RowKit

theorem below_then' {w w1 w2 : World} (h : Below w.heap.size w w1) (k : Below w1.heap.size w1 w2) : Below w.heap.size w w2 := h.trans (k.mono h.size)
/-- The result of putting. -/
def putV (s : ByteArray) : Value := if s.size ≤ 262144 then .tuple #[.string (encS s), .int .i64 0] else .tuple #[.string ⟨#[]⟩, .int .i64 23]
set_option maxHeartbeats 2000000 in
theorem put_any (s : ByteArray) (hs : s.size ≤ 300000) (w : World) (hT : TabW w) : Calls Tryd.prog 19 #[.string s] w fun e w' => e = .returned (putV s) ∧ Below w.heap.size w w' := by
  unfold putV
  by_cases hl : s.size ≤ 262144
  · rw [if_pos hl]
    have hz : ¬ (262144 : Int) < (s.size : Int) := by omega
    have H1 := Lib.hid (hex_ok s.size (by omega))
    have H2 := Lib.hid (fun w hT => sum_any s w hs hT)
    have H3 := Lib.hid (hex_ok (crcS s).toNat (crcS s).isLt)
    have HE := Lib.hid (encS_eq s)
    have hA : (⟨(hexL s.size).toArray⟩ : ByteArray).size = 6 := rfl
    have hB : (⟨(hexL (crcS s).toNat).toArray⟩ : ByteArray).size = 6 := rfl
    have HT := Lib.hid hT
    clear hT hl
    generalize (⟨(hexL s.size).toArray⟩ : ByteArray) = A at *
    generalize (⟨(hexL (crcS s).toNat).toArray⟩ : ByteArray) = B at *
    have h1 : (A ++ B).size = 12 := by rw [ByteArray.size_append]; omega
    have h2 : (A ++ B ++ ⟨#[124]⟩ : ByteArray).size = 13 := by rw [ByteArray.size_append, h1]; rfl
    have h3 : (A ++ B ++ ⟨#[124]⟩ ++ s : ByteArray).size = 13 + s.size := by rw [ByteArray.size_append, h2]
    go_enter Tryd.func19, Tryd.ntmps19
    go_wp2_with fail
    refine (H1.out w).mono ?_
    rintro e w1 ⟨rfl, hb1⟩
    go_wp2_with fail
    refine (H2.out w1 (HT.out.below hb1 HT.out.size)).mono ?_
    rintro e w2 ⟨rfl, rfl⟩
    go_wp2_with fail
    refine (H3.out w1).mono ?_
    rintro e w2 ⟨rfl, hb2⟩
    go_wp2_with fail
    go_ret2
    rw [HE.out]
    exact ⟨rfl, below_then' hb1 hb2⟩
  · rw [if_neg hl]
    have hz : (262144 : Int) < (s.size : Int) := by omega
    clear hl hT
    go_enter Tryd.func19, Tryd.ntmps19
    go_wp2_with fail
    go_ret2
    exact ⟨rfl, Below.refl _ _⟩
end Go.Proofs.YtcbkgcnajplagaaDoor
end
