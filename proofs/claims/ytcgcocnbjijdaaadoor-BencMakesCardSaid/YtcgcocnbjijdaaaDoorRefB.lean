/- What Same and Clean of the document's answers return, whatever the values. Conditions: the values read as trees. -/
import Derived.Test.YtcgcocnbjijdaaaDoorRefA
set_option linter.unusedVariables false
set_option linter.unusedSimpArgs false
namespace Go.Proofs.YtcgcocnbjijdaaaDoor
open Go Go.RowKit

theorem sameL_step (l m : List T) (k : Nat) (hl : k < l.length) (hm : k < m.length) : sameL (l.drop k) (m.drop k) = (sameT l[k] m[k] && sameL (l.drop (k + 1)) (m.drop (k + 1))) := by
  rw [List.drop_eq_getElem_cons hl, List.drop_eq_getElem_cons hm, sameL]
theorem sameL_end (l m : List T) (k : Nat) (hl : l.length ≤ k) (hm : m.length ≤ k) : sameL (l.drop k) (m.drop k) = true := by
  rw [List.drop_eq_nil_of_le hl, List.drop_eq_nil_of_le hm, sameL]
  rfl
theorem sameL_len : ∀ l m : List T, l.length ≠ m.length → sameL l m = false
  | [], [], h => by simp at h
  | [], u :: us, _ => by simp [sameL]
  | t :: ts, [], _ => by simp [sameL]
  | t :: ts, u :: us, h => by
    rw [sameL, sameL_len ts us (by simpa using h), Bool.and_false]

theorem str_eq_dec (s s' : ByteArray) : (s.toList == s'.toList) = decide (s = s') := by
  rw [Bool.eq_iff_iff, beq_iff_eq, decide_eq_true_iff, Lib.toList_data, Lib.toList_data]
  constructor
  · intro h
    exact ByteArray.ext (Array.toList_inj.1 h)
  · rintro rfl; rfl
set_option maxRecDepth 100000 in
set_option maxHeartbeats 8000000 in
theorem same_of (N : Nat) : ∀ (t u : T) (v v' : Value) (ok ok' : Nat → Prop) (w : World), SizeOf.sizeOf t < N → RdA ok w t v → RdA ok' w u v' → Calls Tryd.prog 18 #[v, v'] w (Gives (.bool (sameT t u)) w) := by
  induction N with
  | zero => intro t u v v' ok ok' w h; omega
  | succ N ih =>
    intro t u v v' ok ok' w hN ht hu
    obtain ⟨A, c, xs, rfl, h2, h3, h4, h5, h6⟩ := ht
    obtain ⟨A', c', xs', rfl, h2', h3', h4', h5', h6'⟩ := hu
    obtain ⟨k, n, s, l⟩ := t
    obtain ⟨k', n', s', l'⟩ := u
    simp only [T.k, T.n, T.s, T.l] at *
    unfold maxLen at h2 h4 h2' h4'
    by_cases hk : k = k'
    · subst hk
      by_cases h1 : k = 1
      · subst h1
        have HR : Hid (sameT (.mk 1 n s l) (.mk 1 n' s' l') = decide (n = n')) := Lib.hid (by rw [Bool.eq_iff_iff, decide_eq_true_iff]; simp [sameT, T.k, T.n]; try exact decide_eq_true_iff)
        go_enter Tryd.func18, Tryd.ntmps18
        go_wp2_with fail
        go_ret
        exact ⟨ret_bool (by rw [HR.out]; rfl), ((Below.refl _ _).alloc (Nat.le_refl _) _).alloc (by simp) _⟩
      · by_cases h22 : k = 2
        · subst h22
          have HR : Hid (sameT (.mk 2 n s l) (.mk 2 n' s' l') = decide (s = s')) := Lib.hid (by rw [Bool.eq_iff_iff, decide_eq_true_iff]; simp [sameT, T.k, T.s]; try exact decide_eq_true_iff)
          go_enter Tryd.func18, Tryd.ntmps18
          go_wp2_with fail
          go_ret
          refine ⟨ret_bool ?_, ((Below.refl _ _).alloc (Nat.le_refl _) _).alloc (by simp) _⟩
          rw [HR.out]
          exact str_eq_dec s s'
        · have e1 : (k == 1) = false := by simpa using h1
          have e2 : (k == 2) = false := by simpa using h22
          by_cases hlen : l.length = l'.length
          · have HR : Hid (sameT (.mk k n s l) (.mk k n' s' l') = sameL l l') := Lib.hid (by simp [sameT, T.k, T.l, h1, h22])
            clear h1 h22
            generalize hres : sameT (.mk k n s l) (.mk k n' s' l') = res at *
            have hl' : l'.length = l.length := hlen.symm
            clear hlen
            rw [hl'] at h3' h5' ⊢
            generalize hll : l.length = len at h3 h5 h3' h5' hl' ⊢
            have HLEN := Lib.hid hll
            have HLEN' := Lib.hid hl'
            clear hll hl' hres
            obtain ⟨hblk, hb0, hsz⟩ := box_start w (.int .i64 k) (.int .i64 n) (.string s) (.slice A len c)
            go_enter Tryd.func18, Tryd.ntmps18
            go_wp2_with fail
            generalize w.alloc (.cells #[.int .i64 k, .int .i64 n, .string s, .slice A len c] 24) = w1 at hblk hb0 hsz
            obtain ⟨hblk2, hb1, hsz2⟩ := box_start w1 (.int .i64 k) (.int .i64 n') (.string s') (.slice A' len c')
            have hblk2' : (w1.alloc (.cells #[.int .i64 k, .int .i64 n', .string s', .slice A' len c'] 24)).heap[w.heap.size + 1]? = some (.cells #[.int .i64 k, .int .i64 n', .string s', .slice A' len c'] 24 (0, 0)) := by rw [← hsz]; exact hblk2
            have hblk1' := (hb1.block w.heap.size (by omega)).trans hblk
            generalize w1.alloc (.cells #[.int .i64 k, .int .i64 n', .string s', .slice A' len c'] 24) = w2 at *
            have hb02 : Below w.heap.size w w2 := hb0.trans (hb1.mono (by omega))
            have hsz2' : w2.heap.size = w.heap.size + 2 := by omega
            have HB1 := Lib.hid hblk1'
            have HB2 := Lib.hid hblk2'
            have HS := Lib.hid hsz2'
            clear hblk hblk2 hblk2' hblk1' hsz hsz2 hsz2' hb0 hb1
            go_loopw [5] (fun i wr => ∃ (j : Nat), i = .int .i64 (j : Int) ∧ j ≤ len ∧ Below w2.heap.size w2 wr ∧ Hid (res = sameL (l.drop j) (l'.drop j))) (fun i _ => len - (intOf i).toNat)
            case atStart => exact ⟨0, rfl, Nat.zero_le _, Below.refl _ _, Lib.hid HR.out⟩
            case round =>
              obtain ⟨j, rfl, hj, hbw, HD⟩ := hrel
              have hbw' : Below w.heap.size w wr := hb02.trans (hbw.mono (by have := HS.out; omega))
              obtain ⟨a0, a1, a2, a3, af⟩ := val_block ((hbw.block w.heap.size (by have := HS.out; omega)).trans HB1.out)
              obtain ⟨b0, b1, b2, b3, bf⟩ := val_block ((hbw.block (w.heap.size + 1) (by have := HS.out; omega)).trans HB2.out)
              by_cases hlt : j < len
              · have hltz : (j : Int) < (len : Int) := by omega
                have hj1 : j < l.length := by have := HLEN.out; omega
                have hj2 : j < l'.length := by have := HLEN'.out; omega
                obtain ⟨b, o, B', d', rfl, hok, hblt, hfr, hRA, g0, g1, g2, g3⟩ := elem_at (HLEN.out ▸ h5) h6 hj1
                obtain ⟨b', o', B'', d'', rfl, hok', hblt', hfr', hRA', g0', g1', g2', g3'⟩ := elem_at (HLEN'.out ▸ h5') h6' hj2
                have hRA2 := hRA.keep (Keeps.of_below hbw' (fun b _ h => h))
                have hRA2' := hRA'.keep (Keeps.of_below hbw' (fun b _ h => h))
                rw [← hbw'.cell (p := ⟨b, o + j * 4, none⟩) hblt] at g0
                rw [← hbw'.cell (p := ⟨b, o + j * 4 + 1, none⟩) hblt] at g1
                rw [← hbw'.cell (p := ⟨b, o + j * 4 + 2, none⟩) hblt] at g2
                rw [← hbw'.cell (p := ⟨b, o + j * 4 + 3, none⟩) hblt] at g3
                rw [← hbw'.cell (p := ⟨b', o' + j * 4, none⟩) hblt'] at g0'
                rw [← hbw'.cell (p := ⟨b', o' + j * 4 + 1, none⟩) hblt'] at g1'
                rw [← hbw'.cell (p := ⟨b', o' + j * 4 + 2, none⟩) hblt'] at g2'
                rw [← hbw'.cell (p := ⟨b', o' + j * 4 + 3, none⟩) hblt'] at g3'
                have hszk : SizeOf.sizeOf l[j] < N := by have := sz_mem (k := k) (n := n) (s := s) (List.getElem_mem hj1); omega
                have HNX : Hid (res = (sameT l[j] l'[j] && sameL (l.drop (j + 1)) (l'.drop (j + 1)))) := Lib.hid (by rw [HD.out, sameL_step _ _ _ hj1 hj2])
                generalize l[j] = x at *
                generalize l'[j] = x' at *
                clear hRA hRA' hfr hfr' hok hok'
                have l1 : w.heap.size < wr.heap.size := by have := hbw.size; have := HS.out; omega
                have l2 : w.heap.size + 1 < wr.heap.size := by have := hbw.size; have := HS.out; omega
                have l3 : b < wr.heap.size := Nat.lt_of_lt_of_le hblt hbw'.size
                have l4 : b' < wr.heap.size := Nat.lt_of_lt_of_le hblt' hbw'.size
                cases hq : sameT x x' with
                | true =>
                  have HQ := Lib.hid hq
                  have HNX' : Hid (res = sameL (l.drop (j + 1)) (l'.drop (j + 1))) := Lib.hid (by rw [HNX.out, HQ.out, Bool.true_and])
                  clear hq
                  go_wp2_with fail
                  go_region_held3 (fun w' => w'.cell? ⟨w.heap.size, 3, none⟩ = some (.slice (some ⟨b, o, none⟩) len c) ∧ w'.cell? ⟨w.heap.size + 1, 3, none⟩ = some (.slice (some ⟨b', o', none⟩) len c') ∧
                      w'.cell? ⟨b, o + j * 4, none⟩ = some (.int .i64 x.k) ∧ w'.cell? ⟨b, o + j * 4 + 1, none⟩ = some (.int .i64 x.n) ∧ w'.cell? ⟨b, o + j * 4 + 2, none⟩ = some (.string x.s) ∧ w'.cell? ⟨b, o + j * 4 + 3, none⟩ = some (.slice B' x.l.length d') ∧
                      w'.cell? ⟨b', o' + j * 4, none⟩ = some (.int .i64 x'.k) ∧ w'.cell? ⟨b', o' + j * 4 + 1, none⟩ = some (.int .i64 x'.n) ∧ w'.cell? ⟨b', o' + j * 4 + 2, none⟩ = some (.string x'.s) ∧ w'.cell? ⟨b', o' + j * 4 + 3, none⟩ = some (.slice B'' x'.l.length d''))
                    (first | go_keep | exact ⟨(kk _ l1).trans a3, (kk _ l2).trans b3, (kk _ l3).trans g0, (kk _ l3).trans g1, (kk _ l3).trans g2, (kk _ l3).trans g3, (kk _ l4).trans g0', (kk _ l4).trans g1', (kk _ l4).trans g2', (kk _ l4).trans g3'⟩)
                    ((go_at_call 18; refine (ih x x' _ _ _ _ _ hszk (hRA2.keep (w' := wr.drew) ⟨Nat.le_refl _, fun _ _ _ => rfl⟩) (hRA2'.keep (w' := wr.drew) ⟨Nat.le_refl _, fun _ _ _ => rfl⟩)).mono ?_; rw [HQ.out]; rintro e w3 ⟨rfl, hb3⟩; have kk := fun (p : Addr) (hp : p.block < wr.heap.size) => (hb3.cell (p := p) hp)))
                  go_wp2_with fail
                  have hb3' : Below wr.heap.size wr w3 := (Below.refl wr.heap.size wr).drew.trans hb3
                  go_roundw
                  case rel => exact ⟨j + 1, by go_num, by omega, hbw.trans (hb3'.mono hbw.size), HNX'⟩
                  case measure => simp [intOf]; omega
                | false =>
                  have HQ := Lib.hid hq
                  have HNX' : Hid (res = false) := Lib.hid (by rw [HNX.out, HQ.out, Bool.false_and])
                  clear hq
                  go_wp2_with fail
                  go_region_held3 (fun w' => w'.cell? ⟨w.heap.size, 3, none⟩ = some (.slice (some ⟨b, o, none⟩) len c) ∧ w'.cell? ⟨w.heap.size + 1, 3, none⟩ = some (.slice (some ⟨b', o', none⟩) len c') ∧
                      w'.cell? ⟨b, o + j * 4, none⟩ = some (.int .i64 x.k) ∧ w'.cell? ⟨b, o + j * 4 + 1, none⟩ = some (.int .i64 x.n) ∧ w'.cell? ⟨b, o + j * 4 + 2, none⟩ = some (.string x.s) ∧ w'.cell? ⟨b, o + j * 4 + 3, none⟩ = some (.slice B' x.l.length d') ∧
                      w'.cell? ⟨b', o' + j * 4, none⟩ = some (.int .i64 x'.k) ∧ w'.cell? ⟨b', o' + j * 4 + 1, none⟩ = some (.int .i64 x'.n) ∧ w'.cell? ⟨b', o' + j * 4 + 2, none⟩ = some (.string x'.s) ∧ w'.cell? ⟨b', o' + j * 4 + 3, none⟩ = some (.slice B'' x'.l.length d''))
                    (first | go_keep | exact ⟨(kk _ l1).trans a3, (kk _ l2).trans b3, (kk _ l3).trans g0, (kk _ l3).trans g1, (kk _ l3).trans g2, (kk _ l3).trans g3, (kk _ l4).trans g0', (kk _ l4).trans g1', (kk _ l4).trans g2', (kk _ l4).trans g3'⟩)
                    ((go_at_call 18; refine (ih x x' _ _ _ _ _ hszk (hRA2.keep (w' := wr.drew) ⟨Nat.le_refl _, fun _ _ _ => rfl⟩) (hRA2'.keep (w' := wr.drew) ⟨Nat.le_refl _, fun _ _ _ => rfl⟩)).mono ?_; rw [HQ.out]; rintro e w3 ⟨rfl, hb3⟩; have kk := fun (p : Addr) (hp : p.block < wr.heap.size) => (hb3.cell (p := p) hp)))
                  go_wp2_with fail
                  have hb3' : Below wr.heap.size wr w3 := (Below.refl wr.heap.size wr).drew.trans hb3
                  go_ret
                  exact ⟨ret_bool HNX'.out.symm, hbw'.trans (hb3'.mono hbw'.size)⟩
              · have hltz : ¬ (j : Int) < (len : Int) := by omega
                have HE : Hid (res = true) := Lib.hid (by rw [HD.out, sameL_end _ _ _ (by have := HLEN.out; omega) (by have := HLEN'.out; omega)])
                go_wp2_with fail
                go_ret
                exact ⟨ret_bool HE.out.symm, hbw'⟩
          · have HR : Hid (sameT (.mk k n s l) (.mk k n' s' l') = false) := Lib.hid (by simp [sameT, T.k, T.l, h1, h22, sameL_len l l' hlen])
            have hlz : ((l.length : Int) == (l'.length : Int)) = false := by
              rw [Bool.eq_false_iff, Ne, beq_iff_eq]
              omega
            have hlz' : ((l.length : Int) != (l'.length : Int)) = true := by rw [bne, hlz]; rfl
            have hlz2 : (l.length == l'.length) = false := by simpa using hlen
            have hlz3 : (l.length != l'.length) = true := by simpa using hlen
            clear h1 h22 hlen
            rw [HR.out]
            go_enter Tryd.func18, Tryd.ntmps18
            go_wp2_with fail
            go_ret
            exact ⟨rfl, ((Below.refl _ _).alloc (Nat.le_refl _) _).alloc (by simp) _⟩
    · have HR : Hid (sameT (.mk k n s l) (.mk k' n' s' l') = false) := Lib.hid (by simp [sameT, T.k, hk])
      have hkb : (k == k') = false := by simpa using hk
      have hkn : (k != k') = true := by simpa using hk
      clear hk
      rw [HR.out]
      go_enter Tryd.func18, Tryd.ntmps18
      go_wp2_with fail
      go_ret
      exact ⟨rfl, ((Below.refl _ _).alloc (Nat.le_refl _) _).alloc (by simp) _⟩
end Go.Proofs.YtcgcocnbjijdaaaDoor
