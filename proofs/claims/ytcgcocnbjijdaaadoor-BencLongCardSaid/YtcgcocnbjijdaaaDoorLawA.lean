/- The walk of BencTakes: it returns true. Conditions: Go's table of powers of ten lies as start-up lays it. -/
import Derived.Test.YtcgcocnbjijdaaaDoorAwake
import Derived.Test.YtcgcocnbjijdaaaDoorRefI
set_option linter.unusedVariables false
set_option linter.unusedSimpArgs false
namespace Go.Proofs.YtcgcocnbjijdaaaDoor
open Go Go.RowKit

abbrev Tr : Nat → Prop := fun _ => True
theorem RdA.any {ok : Nat → Prop} {w : World} {t : T} {v : Value} (h : RdA ok w t v) : RdA Tr w t v := h.mono (fun _ _ _ => trivial)
theorem RdA.next {w w' : World} {t : T} {v : Value} (h : RdA Tr w t v) (hb : Below w.heap.size w w') : RdA Tr w' t v := h.keep (Keeps.of_below hb (fun _ _ h => h))
def Z0 : T := .mk 0 0 .empty []
theorem rd_Z0 (w : World) : RdA Tr w Z0 zeroA := ⟨none, 0, [], rfl, by simp [Z0, T.s, maxLen], by simp [Z0, T.l], by simp [maxLen], ReadsP.none_, rfl⟩
def CleanOk (t : T) : Prop := t = Z0 ∨ (kindsOk t = true ∧ cleanT t = true)
set_option maxRecDepth 100000 in
set_option maxHeartbeats 8000000 in
theorem clean_zero (A : Option Addr) (c : Nat) (w : World) : Calls Tryd.prog 19 #[.agg #[.int .i64 0, .int .i64 0, .string ⟨#[]⟩, .slice A 0 c]] w (Gives (.bool true) w) := by
  go_enter Tryd.func19, Tryd.ntmps19
  go_wp2_with fail
  refine wp_loop_rounds 1 ?_
  rw [rounds_succ]
  go_wp2_with fail
  go_ret
  exact ⟨rfl, (Below.refl _ _).alloc (Nat.le_refl _) _⟩
theorem clean_out (t : T) (v : Value) (w : World) (h : RdA Tr w t v) (hc : CleanOk t) : Calls Tryd.prog 19 #[v] w (Gives (.bool true) w) := by
  rcases hc with rfl | ⟨hk, hc⟩
  · obtain ⟨A, c, xs, rfl, _⟩ := h
    exact clean_zero A c w
  · exact clean_any t v Tr w h hk hc
/-- What Take and Only tell, errors and all. -/
def takeOut (bs : List UInt8) : T × Int × Int := match takeRes bs with | .error x => (Z0, 0, x) | .ok (t, n) => (t, n, 0)
def onlyOut (bs : List UInt8) : T × Int := match onlyRes bs with | .error x => (Z0, x) | .ok t => (t, 0)
theorem takeOut_clean (bs : List UInt8) : CleanOk (takeOut bs).1 := by
  unfold takeOut
  rcases hx : takeRes bs with x | ⟨t, n⟩
  · exact .inl rfl
  · have := rd_inv (by omega) (takeRes_ok hx).1
    exact .inr ⟨this.kinds, this.clean⟩
theorem onlyOut_clean (bs : List UInt8) : CleanOk (onlyOut bs).1 := by
  unfold onlyOut onlyRes
  rcases hx : takeRes bs with x | ⟨t, n⟩
  · exact .inl rfl
  · have := rd_inv (by omega) (takeRes_ok hx).1
    simp only
    split
    · rename_i h
      split at h
      · exact .inl rfl
      · cases h
    · rename_i h
      split at h
      · cases h
      · cases h
        exact .inr ⟨this.kinds, this.clean⟩
def TOut (o : T × Int × Int) (w : World) (e : Ending) (w' : World) : Prop := ∃ A c, e = .returned (.tuple #[.agg #[.int .i64 o.1.k, .int .i64 o.1.n, .string o.1.s, .slice A o.1.l.length c], .int .i64 o.2.1, .int .i64 o.2.2]) ∧ RdA Tr w' o.1 (.agg #[.int .i64 o.1.k, .int .i64 o.1.n, .string o.1.s, .slice A o.1.l.length c]) ∧ Below w.heap.size w w'
def OOut (o : T × Int) (w : World) (e : Ending) (w' : World) : Prop := ∃ A c, e = .returned (.tuple #[.agg #[.int .i64 o.1.k, .int .i64 o.1.n, .string o.1.s, .slice A o.1.l.length c], .int .i64 o.2]) ∧ RdA Tr w' o.1 (.agg #[.int .i64 o.1.k, .int .i64 o.1.n, .string o.1.s, .slice A o.1.l.length c]) ∧ Below w.heap.size w w'
theorem tk_out {bs : List UInt8} {w w' : World} {e : Ending} (h : TkPost (takeRes bs) w e w') : TOut (takeOut bs) w e w' := by
  unfold takeOut
  rcases hx : takeRes bs with x | ⟨t, n⟩
  · rw [hx] at h
    exact ⟨none, 0, h.1, rd_Z0 w', h.2⟩
  · rw [hx] at h
    obtain ⟨v, he, hr, hb⟩ := h
    obtain ⟨A, c, rfl, _⟩ := hr.rd
    exact ⟨A, c, he, hr.any, hb⟩
theorem on_out {bs : List UInt8} {w w' : World} {e : Ending} (h : OnPost (onlyRes bs) w e w') : OOut (onlyOut bs) w e w' := by
  unfold onlyOut
  rcases hx : onlyRes bs with x | t
  · rw [hx] at h
    exact ⟨none, 0, h.1, rd_Z0 w', h.2⟩
  · rw [hx] at h
    obtain ⟨v, he, hr, hb⟩ := h
    obtain ⟨A, c, rfl, _⟩ := hr.rd
    exact ⟨A, c, he, hr.any, hb⟩
theorem same_true (t : T) (v v' : Value) (w : World) (ht : RdA Tr w t v) (hu : RdA Tr w t v') : Calls Tryd.prog 18 #[v, v'] w (Gives (.bool true) w) := by
  have := same_any t t v v' Tr Tr w ht hu
  rwa [sameT_refl] at this

theorem next_blk {w w1 : World} {o o' : Obj} {b : Nat} (hb : Below (w.alloc o).heap.size (w.alloc o) w1) (h : w.heap[b]? = some o') : w1.heap[b]? = some o' := by
  have hl := (Array.getElem?_eq_some_iff.1 h).1
  rw [hb.block b (by simp; omega), Below.heap_alloc _ _ _ hl]
  exact h
theorem new_blk {w w1 : World} {c : Array Value} {e : TypeId} (hb : Below (w.alloc (.cells c e)).heap.size (w.alloc (.cells c e)) w1) : w1.heap[w.heap.size]? = some (.cells c e (0, 0)) := by
  rw [hb.block w.heap.size (by simp)]
  exact heap_alloc_new w _
theorem on_blk {w w1 : World} {o' : Obj} {b : Nat} (hb : Below w.heap.size w w1) (h : w.heap[b]? = some o') : w1.heap[b]? = some o' := (hb.block b (Array.getElem?_eq_some_iff.1 h).1).trans h
theorem blk_lt {w : World} {o' : Obj} {b : Nat} (h : w.heap[b]? = some o') : b < w.heap.size := (Array.getElem?_eq_some_iff.1 h).1
theorem RdA.next' {w w' : World} {o : Obj} {t : T} {v : Value} (h : RdA Tr w t v) (hb : Below (w.alloc o).heap.size (w.alloc o) w') : RdA Tr w' t v := h.next (below_new hb)
theorem RdA.al {w : World} {t : T} {v : Value} (h : RdA Tr w t v) (o : Obj) : RdA Tr (w.alloc o) t v := h.keep ((Keeps.refl _ _).alloc o)
set_option maxRecDepth 100000 in
set_option maxHeartbeats 16000000 in
theorem bencTakes_walk (s : ByteArray) (w : World) (hT : Tabs w w.heap.size) : Calls Tryd.prog 4 #[.string s] w (Gives (.bool true) w) := by
  by_cases hlen : 8192 < s.size
  · have hz : (8192 : Int) < (s.size : Int) := by omega
    go_enter Tryd.func4, Tryd.ntmps4
    go_wp2_with (go_at_call 11; refine (awake_any _ _ hT (Nat.le_refl _)).mono ?_; rintro e w1 ⟨rfl, hb1⟩)
    go_ret
    exact ⟨rfl, hb1⟩
  · have hz : ¬ (8192 : Int) < (s.size : Int) := by omega
    have hs : s.size ≤ 1000000000 := by omega
    have hcl := takeOut_clean s.data.toList
    have hclo := onlyOut_clean s.data.toList
    have h14 := fun W => (take_any s hs W).mono (fun _ _ h => tk_out h)
    have h15 := fun W => (rtake_any s hs W).mono (fun _ _ h => tk_out h)
    have h16 := fun W => (only_any s hs W).mono (fun _ _ h => on_out h)
    have h17 := fun W => (ronly_any s hs W).mono (fun _ _ h => on_out h)
    generalize takeOut s.data.toList = o1 at *
    generalize onlyOut s.data.toList = o2 at *
    obtain ⟨t, n, x⟩ := o1
    obtain ⟨u, y⟩ := o2
    have H14 := Lib.hid h14
    have H15 := Lib.hid h15
    have H16 := Lib.hid h16
    have H17 := Lib.hid h17
    clear h14 h15 h16 h17
    dsimp only at hcl hclo
    go_enter Tryd.func4, Tryd.ntmps4
    go_wp2_with fail
    refine (H14.out w).mono ?_
    rintro e w1 ⟨A1, c1, rfl, hr1, hb1⟩
    dsimp only at hr1 ⊢
    go_wp2_with fail
    refine (H15.out _).mono ?_
    rintro e w2 ⟨A2, c2, rfl, hr2, hb2⟩
    dsimp only at hr2 ⊢
    have q1 := Lib.hid (new_blk hb2)
    go_wp2_with fail
    refine (H16.out _).mono ?_
    rintro e w3 ⟨A3, c3, rfl, hr3, hb3⟩
    dsimp only at hr3 ⊢
    have q2 := Lib.hid (new_blk hb3)
    have q1' := Lib.hid (next_blk hb3 q1.out)
    go_wp2_with fail
    refine (H17.out _).mono ?_
    rintro e w4 ⟨A4, c4, rfl, hr4, hb4⟩
    dsimp only at hr4 ⊢
    have q3 := Lib.hid (new_blk hb4)
    have q2' := Lib.hid (next_blk hb4 q2.out)
    have q1'' := Lib.hid (next_blk hb4 q1'.out)
    have r1 := ((hr1.next' hb2).next' hb3).next' hb4
    have r2 := (hr2.next' hb3).next' hb4
    have r3 := hr3.next' hb4
    have hbw : Below w.heap.size w w4 := below_then (below_then (below_then hb1 (below_new hb2)) (below_new hb3)) (below_new hb4)
    obtain ⟨e0, e1, e2, e3, ef⟩ := val_block q1''.out
    obtain ⟨f0, f1, f2, f3, ff⟩ := val_block q2'.out
    obtain ⟨g0, g1, g2, g3, gf⟩ := val_block q3.out
    have l1 := blk_lt q1''.out
    have l2 := blk_lt q2'.out
    have l3 := blk_lt q3.out
    clear hb1 hb2 hb3 hb4 hr1 hr2 hr3
    generalize w1.heap.size = b1 at *
    generalize w2.heap.size = b2 at *
    generalize w3.heap.size = b3 at *
    go_wp2_with fail
    refine (same_true t _ _ _ (r1.al _) (r2.al _)).mono ?_
    rintro e w5 ⟨rfl, hb5⟩
    have p1 := Lib.hid (next_blk hb5 q1''.out)
    have p3 := Lib.hid (next_blk hb5 q3.out)
    have p4 := Lib.hid (new_blk hb5)
    have s1 := r1.next' hb5
    have s3 := r3.next' hb5
    have s4 := (hr4.al _).next hb5
    have hbw5 := below_then hbw (below_new hb5)
    obtain ⟨e0, e1, e2, e3, ef⟩ := val_block p1.out
    have l4 := blk_lt p1.out
    generalize w4.heap.size = b4 at *
    clear hb5 hbw f0 f1 f2 f3 ff g0 g1 g2 g3 gf r1 r2 r3 hr4
    go_wp2_with fail
    refine (clean_out t _ _ s1 hcl).mono ?_
    rintro e w6 ⟨rfl, hb6⟩
    obtain ⟨e0, e1, e2, e3, ef⟩ := val_block (on_blk hb6 p3.out)
    obtain ⟨f0, f1, f2, f3, ff⟩ := val_block (on_blk hb6 p4.out)
    have l5 := blk_lt (on_blk hb6 p3.out)
    have l6 := blk_lt (on_blk hb6 p4.out)
    have s3' := s3.next hb6
    have s4' := s4.next hb6
    have p3' := Lib.hid (on_blk hb6 p3.out)
    have hbw6 := below_then hbw5 hb6
    clear hb6 hbw5 s1 s3 s4
    go_wp2_with fail
    refine (same_true u _ _ _ s3' s4').mono ?_
    rintro e w7 ⟨rfl, hb7⟩
    obtain ⟨e0, e1, e2, e3, ef⟩ := val_block (on_blk hb7 p3'.out)
    have l7 := blk_lt (on_blk hb7 p3'.out)
    have s3'' := s3'.next hb7
    have hbw7 := below_then hbw6 hb7
    clear hb7 hbw6 s3' s4' f0 f1 f2 f3 ff
    go_wp2_with fail
    refine (clean_out u _ _ s3'' hclo).mono ?_
    rintro e w8 ⟨rfl, hb8⟩
    have hbw8 := below_then hbw7 hb8
    clear hb8 hbw7 s3''
    go_wp2_with fail
    refine (awake_any w.heap.size _ (hT.on hbw8) hbw8.size).mono ?_
    rintro e w9 ⟨rfl, hb9⟩
    go_wp2_with fail
    go_ret
    exact ⟨rfl, below_then hbw8 hb9⟩
end Go.Proofs.YtcgcocnbjijdaaaDoor
