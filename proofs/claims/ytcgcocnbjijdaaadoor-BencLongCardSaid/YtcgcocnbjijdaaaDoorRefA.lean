/- What Same, Clean, size and Small of the document's answers return, whatever the values. Conditions: the values read as trees. -/
import Derived.Test.YtcgcocnbjijdaaaDoorOnly
set_option linter.unusedVariables false
set_option linter.unusedSimpArgs false
namespace Go.Proofs.YtcgcocnbjijdaaaDoor
open Go Go.RowKit

/-- It returns v, and what was there is as it was. -/
def Gives (v : Value) (w : World) (e : Ending) (w' : World) : Prop := e = .returned v ∧ Below w.heap.size w w'
mutual
/-- How many bytes and parts there are; many, if it is deeper than so much. -/
def szT : Nat → T → Nat
  | 0, _ => 1048576
  | left + 1, .mk _ _ s l => szL left l (1 + min s.size 1048576)
def szL : Nat → List T → Nat → Nat
  | _, [], n => n
  | left, t :: ts, n => if n < 1048576 then szL left ts (n + szT left t) else n
end
theorem szT_zero (t : T) : szT 0 t = 1048576 := by rw [szT]
theorem szT_succ (left : Nat) (k n : Int) (s : ByteArray) (l : List T) : szT (left + 1) (.mk k n s l) = szL left l (1 + min s.size 1048576) := by rw [szT]
mutual
theorem szT_le : ∀ (left : Nat) (t : T), szT left t ≤ (left + 2) * 1048576
  | 0, t => by rw [szT_zero]; omega
  | left + 1, .mk k n s l => by
    rw [szT_succ]
    have := szL_le left l (1 + min s.size 1048576)
    omega
theorem szL_le : ∀ (left : Nat) (l : List T) (n : Nat), szL left l n ≤ max n ((left + 3) * 1048576)
  | left, [], n => by rw [szL]; omega
  | left, t :: ts, n => by
    rw [szL]
    split
    · have h1 := szT_le left t
      have h2 := szL_le left ts (n + szT left t)
      omega
    · omega
end
/-- An element of a list that reads. -/
theorem elem_at {ok : Nat → Prop} {w : World} {A : Option Addr} {l : List T} {xs : List Value} {k : Nat} (hr : ReadsP ok w 4 A l.length xs) (hl : RdL ok w l xs) (hk : k < l.length) :
    ∃ b o A' c', A = some ⟨b, o, none⟩ ∧ ok b ∧ b < w.heap.size ∧ w.frozen? ⟨b, o, none⟩ = false ∧ RdA ok w l[k] (.agg #[.int .i64 l[k].k, .int .i64 l[k].n, .string l[k].s, .slice A' l[k].l.length c']) ∧
      w.cell? ⟨b, o + k * 4, none⟩ = some (.int .i64 l[k].k) ∧ w.cell? ⟨b, o + k * 4 + 1, none⟩ = some (.int .i64 l[k].n) ∧ w.cell? ⟨b, o + k * 4 + 2, none⟩ = some (.string l[k].s) ∧ w.cell? ⟨b, o + k * 4 + 3, none⟩ = some (.slice A' l[k].l.length c') := by
  obtain ⟨ad, rfl, hb, hlt, hf, hc⟩ := hr.at_ (by omega)
  obtain ⟨cs, hcs, hx⟩ := hl.get hk
  generalize l[k] = u at hcs
  obtain ⟨ku, nu, su, lu⟩ := u
  rw [Rd] at hcs
  obtain ⟨A', c', ys, rfl, h2, h3, h4, h5, h6⟩ := hcs
  have hsp : ad = ⟨ad.block, ad.off, none⟩ := by
    obtain ⟨u0, hu0⟩ : ∃ u0, xs[0]? = some u0 := by
      have := hr.len
      exact ⟨xs[0]'(by omega), List.getElem?_eq_getElem (by omega)⟩
    have h0 := hc 0 u0 hu0
    obtain ⟨ab, ao, asp⟩ := ad
    cases asp with
    | none => rfl
    | some z => simp [World.cell?, Addr.add] at h0; split at h0 <;> cases h0
  obtain ⟨ab, ao, asp⟩ := ad
  injection hsp with _ _ hs
  subst hs
  have hcell : ∀ j, j < 4 → ∀ u, ([.int .i64 ku, .int .i64 nu, .string su, .slice A' lu.length c'] : List Value)[j]? = some u → w.cell? ⟨ab, ao + (k * 4 + j), none⟩ = some u := by
    intro j hj u hu
    have := hc (k * 4 + j) u (by rw [hx j hj]; exact hu)
    rwa [add_flat] at this
  refine ⟨ab, ao, A', c', rfl, hb, hlt, hf, ⟨A', c', ys, rfl, h2, h3, h4, h5, h6⟩, ?_, ?_, ?_, ?_⟩
  · exact hcell 0 (by omega) _ rfl
  · rw [Nat.add_assoc]; exact hcell 1 (by omega) _ rfl
  · rw [Nat.add_assoc]; exact hcell 2 (by omega) _ rfl
  · rw [Nat.add_assoc]; exact hcell 3 (by omega) _ rfl

theorem szL_cons (left : Nat) (l : List T) (k n : Nat) (hk : k < l.length) : szL left (l.drop k) n = if n < 1048576 then szL left (l.drop (k + 1)) (n + szT left l[k]) else n := by
  rw [List.drop_eq_getElem_cons hk, szL]
theorem szL_end (left : Nat) (l : List T) (k n : Nat) (hk : ¬ k < l.length) : szL left (l.drop k) n = n := by
  rw [List.drop_eq_nil_of_le (by omega), szL]
theorem box_start (w : World) (c0 c1 c2 c3 : Value) : (w.alloc (.cells #[c0, c1, c2, c3] 24)).heap[w.heap.size]? = some (.cells #[c0, c1, c2, c3] 24 (0, 0)) ∧ Below w.heap.size w (w.alloc (.cells #[c0, c1, c2, c3] 24)) ∧ (w.alloc (.cells #[c0, c1, c2, c3] 24)).heap.size = w.heap.size + 1 :=
  ⟨heap_alloc_new w _, (Below.refl _ _).alloc (Nat.le_refl _) _, by simp⟩
set_option maxRecDepth 100000 in
set_option maxHeartbeats 8000000 in
theorem size_any (left : Nat) : ∀ (L : Int) (t : T) (v : Value) (ok : Nat → Prop) (w : World), L = (left : Int) → left ≤ 12 → RdA ok w t v → Calls Tryd.prog 23 #[v, .int .i64 L] w (Gives (.int .i64 (szT left t)) w) := by
  induction left with
  | zero =>
    intro L t v ok w hL _ h
    subst hL
    obtain ⟨A, c, xs, rfl, h2, h3, h4, h5, h6⟩ := h
    rw [szT_zero]
    go_enter Tryd.func23, Tryd.ntmps23
    go_wp2_with fail
    go_ret
    exact ⟨rfl, (Below.refl _ _).alloc (Nat.le_refl _) _⟩
  | succ left ih =>
    intro L t v ok w hL hleft h
    obtain ⟨A, c, xs, rfl, h2, h3, h4, h5, h6⟩ := h
    obtain ⟨tk, tn, ts, tl⟩ := t
    simp only [T.k, T.n, T.s, T.l] at *
    rw [szT_succ]
    unfold maxLen at h2 h4
    have hl0 : (L == 0) = false := by
      rw [Bool.eq_false_iff, Ne, beq_iff_eq]
      omega
    have HL := Lib.hid hL
    have hL1 : 1 ≤ L := by omega
    have hL2 : L ≤ 12 := by omega
    clear hL
    generalize hres : szL left tl (1 + min ts.size 1048576) = res
    have HR := Lib.hid hres
    clear hres
    generalize hlen : tl.length = len at *
    have HLEN := Lib.hid hlen
    clear hlen
    obtain ⟨hblk, hb0, hsz⟩ := box_start w (.int .i64 tk) (.int .i64 tn) (.string ts) (.slice A len c)
    go_enter Tryd.func23, Tryd.ntmps23
    go_wp2_with fail
    generalize w.alloc (.cells #[.int .i64 tk, .int .i64 tn, .string ts, .slice A len c] 24) = w0 at hblk hb0 hsz
    have HB := Lib.hid hblk
    have HS := Lib.hid hsz
    clear hblk hsz
    go_loopw [5, 6] (fun v i wr => ∃ (k n : Nat), i = .int .i64 (k : Int) ∧ v = .int .i64 (n : Int) ∧ k ≤ len ∧ n ≤ 20971520 ∧ Below w0.heap.size w0 wr ∧ Hid (res = szL left (tl.drop k) n)) (fun _ i _ => len - (intOf i).toNat)
    case atStart => exact ⟨0, 1 + min ts.size 1048576, rfl, by congr 1; omega, Nat.zero_le _, by omega, Below.refl _ _, Lib.hid HR.out.symm⟩
    case round =>
      obtain ⟨k, n, rfl, rfl, hk, hn, hbw, HD⟩ := hrel
      have hbw' : Below w.heap.size w wr := hb0.trans (hbw.mono (by have := HS.out; omega))
      have hblk := (hbw.block w.heap.size (by have := HS.out; omega)).trans HB.out
      obtain ⟨e0, e1, e2, e3, ef⟩ := val_block hblk
      clear hblk
      by_cases hlt : k < len
      · have hltz : (k : Int) < (len : Int) := by omega
        have hkl : k < tl.length := by have := HLEN.out; omega
        by_cases hsm : n < 1048576
        · have hsmz : (n : Int) < 1048576 := by omega
          obtain ⟨b, o, A', c', rfl, hok, hblt, hfr, hRA, g0, g1, g2, g3⟩ := elem_at (HLEN.out ▸ h5) h6 hkl
          have HNX : Hid (res = szL left (tl.drop (k + 1)) (n + szT left tl[k])) := Lib.hid (by rw [HD.out, szL_cons _ _ _ _ hkl, if_pos hsm])
          have hbd := szT_le left tl[k]
          have hRA' := hRA.keep (Keeps.of_below hbw' (fun b _ h => h))
          rw [← hbw'.cell (p := ⟨b, o + k * 4, none⟩) hblt] at g0
          rw [← hbw'.cell (p := ⟨b, o + k * 4 + 1, none⟩) hblt] at g1
          rw [← hbw'.cell (p := ⟨b, o + k * 4 + 2, none⟩) hblt] at g2
          rw [← hbw'.cell (p := ⟨b, o + k * 4 + 3, none⟩) hblt] at g3
          generalize tl[k] = u at *
          generalize hq : szT left u = q at *
          have HQ := Lib.hid hq
          clear hq
          go_wp2_with fail
          refine (ih (L - 1) u _ _ _ (by have := HL.out; omega) (by omega) hRA').mono ?_
          rw [HQ.out]
          rintro e w1 ⟨rfl, hb1⟩
          go_wp2_with fail
          go_roundw
          case rel => exact ⟨k + 1, n + q, by go_num, by go_num, by omega, by omega, hbw.trans (hb1.mono hbw.size), HNX⟩
          case measure => simp [intOf]; omega
        · have hsmz : ¬ (n : Int) < 1048576 := by omega
          have HE : Hid (res = n) := Lib.hid (by rw [HD.out, szL_cons _ _ _ _ hkl, if_neg hsm])
          go_wp2_with fail
          go_ret
          exact ⟨by rw [HE.out]; rfl, hbw'⟩
      · have HE : Hid (res = n) := Lib.hid (by rw [HD.out, szL_end _ _ _ _ (by have := HLEN.out; omega)])
        have hltz : ¬ (k : Int) < (len : Int) := by omega
        go_wp2_with fail
        go_ret
        exact ⟨by rw [HE.out]; rfl, hbw'⟩
def smallT (t : T) : Bool := decide (szT 12 t < 8192)
theorem small_any (t : T) (v : Value) (ok : Nat → Prop) (w : World) (h : RdA ok w t v) : Calls Tryd.prog 10 #[v] w (Gives (.bool (smallT t)) w) := by
  have hk : RdA ok w t v := h
  obtain ⟨A, c, rfl, _⟩ := h.rd
  have h2 := size_any 12 12 t _ ok (w.alloc (.cells #[.int .i64 t.k, .int .i64 t.n, .string t.s, .slice A t.l.length c] 24)) rfl (by omega) (hk.keep (Keeps.of_below ((Below.refl w.heap.size w).alloc (Nat.le_refl _) _) (fun b _ h => h)))
  have h3 : smallT t = decide (((szT 12 t : Nat) : Int) < 8192) := by
    unfold smallT
    congr 1
    apply propext
    omega
  rw [h3]
  generalize hq : szT 12 t = q at *
  have HQ := Lib.hid hq
  clear hq h3
  have H2 := Lib.hid h2
  clear h2
  go_enter Tryd.func10, Tryd.ntmps10
  go_wp2_with fail
  refine H2.out.mono ?_
  rintro e w1 ⟨rfl, hb⟩
  go_wp2_with fail
  go_ret
  exact ⟨rfl, below_new hb⟩
end Go.Proofs.YtcgcocnbjijdaaaDoor
