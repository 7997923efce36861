/- What the reader's value and list return: what the bytes begin with, held, or why there is none. Conditions: the reader's block is a reader; up to 1000000000 bytes. -/
import Derived.Test.YtmepahlmbopacaaDoorBRdC
import Derived.Test.YtmepahlmbopacaaDoorBApp
import Derived.Test.YtmepahlmbopacaaDoorBAss
set_option linter.unusedVariables false
set_option linter.unusedSimpArgs false
namespace Go.Proofs.YtmepahlmbopacaaDoor.Be
open Go Go.RowKit

/-- What was read of a list so far, ahead of the rest. -/
def prep (ts : List T) (n : Nat) : Except Int (List T × Nat) → Except Int (List T × Nat)
  | .error e => .error e
  | .ok (us, m) => .ok (ts ++ us, n + m)
theorem prep_nil (r : Except Int (List T × Nat)) : prep [] 0 r = r := by rcases r with e | ⟨us, m⟩ <;> simp [prep]
theorem prep_step (ts : List T) (k : Nat) (bs : List UInt8) (w : Nat) (c : UInt8) (r : List UInt8) (hbs : bs = c :: r) (hc : c ≠ 101) (t : T) (n : Nat) (hn : 1 ≤ n) (h : rd bs w = .ok (t, n)) : prep ts k (rdL bs w) = prep (ts ++ [t]) (k + n) (rdL (bs.drop n) w) := by
  subst hbs
  rw [rdL_c _ _ _ hc, h]
  obtain ⟨n, rfl⟩ : ∃ n', n = n' + 1 := ⟨n - 1, by omega⟩
  rw [List.drop_succ_cons]
  simp only [Nat.add_sub_cancel]
  rcases rdL (r.drop n) w with e | ⟨us, m⟩
  · rfl
  · simp [prep, Nat.add_assoc]
theorem prep_err (ts : List T) (k : Nat) (bs : List UInt8) (w : Nat) (c : UInt8) (r : List UInt8) (hbs : bs = c :: r) (hc : c ≠ 101) (x : Int) (h : rd bs w = .error x) : prep ts k (rdL bs w) = .error x := by
  subst hbs
  rw [rdL_c _ _ _ hc, h]
  rfl
theorem own_lt {w : World} {base : Nat} {e : TypeId} {size : Nat} {v : Value} {n : Nat} {xs : List Value} (h : w.ownsRow base e size v n xs) : ∀ k, v.ownBlock = some k → base ≤ k ∧ k < w.heap.size := fun k hk => ⟨(h.lt k hk).1, (h.lt k hk).2⟩

theorem NotErr.form {v : Value} (h : NotErr v) : ∃ k x, v = .iface k x ∧ ∀ w, (Instr.typeAssert (.iface k x) 20 27 true).run Tryd.prog w = .ok (.tuple #[.int .i64 0, .bool false]) w := by
  rcases h with ⟨x, rfl⟩ | ⟨x, rfl⟩ | ⟨x, rfl⟩
  · exact ⟨_, _, rfl, as_3_27 x⟩
  · exact ⟨_, _, rfl, as_9_27 x⟩
  · exact ⟨_, _, rfl, as_63_27 x⟩
/-- What holds at the head of each round of a list's reading. -/
structure LRel (res : Except Int (List T × Nat)) (R : Nat) (s : ByteArray) (p d B : Nat) (w0 : World) (v : Value) (wr : World) (g m : Nat) (ts : List T) (xs : List Value) : Prop where
  at_ : IsRd wr R s g d
  lo : p ≤ g
  hi : g ≤ s.size
  grown : w0.grownBy wr (some R)
  own : wr.ownsRow B 20 1 v m xs
  few : m ≤ g
  rest : res = prep ts (g - p) (rdL (s.data.toList.drop g) d)
  held : g ≤ 65536 → m = ts.length ∧ HvL (fun b => B ≤ b ∧ some b ≠ v.ownBlock) wr ts xs

theorem list_end {rl : Except Int (List T × Nat)} {res : Except Int (T × Nat)} {R : Nat} {s : ByteArray} {p d : Nat} {w wr W : World} {v : Value} {g m : Nat} {ts : List T} {xs : List Value} {e : Ending}
    (hRlt : R < w.heap.size) (hL : LRel rl R s (p + 1) (d + 1) w.heap.size w v wr g m ts xs) (hres : res = .ok (.mk 3 0 .empty ts, g - p + 1)) (he : e = .returned (.iface 129 v)) (hI : IsRd W R s (g + 1) d) (hg : wr.grownBy W (some R)) (hs : s.size ≤ 1000000000) : VPost res R s p d w e W := by
  have hlo := hL.lo
  refine VPost.fine hres he (by rw [show p + (g - p + 1) = g + 1 by omega]; exact hI) (grown_then hL.grown hg) (.inr (.inr ⟨_, rfl⟩)) fun hle => ?_
  obtain ⟨hm, hv⟩ := hL.held (by omega)
  have hown := hL.own
  obtain ⟨A, c, rfl, hc1, hc2⟩ := own_shape hown
  have hr := ReadsP.of_own hown
  have hk : Keeps (fun b => w.heap.size ≤ b) wr W := Keeps.of_grown hg (fun b hb he => by injection he; omega)
  have hfew := hL.few
  have hhi := hL.hi
  subst hm
  rw [Hv]
  exact .inr (.inr ⟨rfl, A, c, xs, rfl, by omega, hr.keep hk, HvL.keep hk _ _ (HvL.mono (fun b hb _ => hb.1) _ _ hv)⟩)
/-- One value more is held. -/
theorem list_more {rl : Except Int (List T × Nat)} {R : Nat} {s : ByteArray} {p d B : Nat} {w wr w1 w2 : World} {v v' y : Value} {g m n : Nat} {ts : List T} {xs : List Value} {t : T}
    (hL : LRel rl R s p d B w v wr g m ts xs) (hR : R < B) (hB : B ≤ wr.heap.size) (hBw : w.heap.size ≤ B) (hc : ∃ c r, s.data.toList.drop g = c :: r ∧ c ≠ 101) (hrd : rd (s.data.toList.drop g) d = .ok (t, n)) (hd : d ≤ 8)
    (hI1 : IsRd w1 R s (g + n) d) (hg1 : wr.grownBy w1 (some R)) (hv : g + n ≤ 65536 → Hv (fun b => wr.heap.size ≤ b) w1 t y)
    (hown : w2.ownsRow B 20 1 v' (m + 1) (xs ++ [y])) (hgr : w1.grownBy w2 v.ownBlock) (hb : v'.ownBlock = v.ownBlock ∨ ∀ k, v'.ownBlock = some k → w1.heap.size ≤ k) : LRel rl R s p d B w v' w2 (g + n) (m + 1) (ts ++ [t]) (xs ++ [y]) := by
  obtain ⟨c, r, hcr, hne⟩ := hc
  have hinv := rd_inv hd hrd
  have hge := hinv.ge
  have hle := hinv.le
  rw [List.length_drop] at hle
  simp at hle
  have hlo := hL.lo
  have hhi := hL.hi
  have hfew := hL.few
  have hlt := own_lt hL.own
  have hnR : v.ownBlock ≠ some R := fun e => by have := (hlt _ e).1; omega
  refine ⟨?_, by omega, by omega, ?_, hown, by omega, ?_, fun hle2 => ?_⟩
  · exact hI1.of (hgr.block R hI1.lt (fun e => hnR e.symm))
  · refine grown_then_far (grown_then hL.grown hg1) hgr fun k hk => .inr ?_
    have := (hlt k hk).1
    omega
  · rw [hL.rest, prep_step ts (g - p) _ d c r hcr hne t n (by omega) hrd, List.drop_drop]
    congr 1
    omega
  · obtain ⟨h1, h2⟩ := hL.held (by omega)
    refine ⟨by simp [h1], HvL.snoc ?_ ?_⟩
    · have k2 : Keeps (fun b => wr.heap.size ≤ b ∧ b < w1.heap.size) w1 w2 := Keeps.of_grown hgr (fun b hb e => by have := (hlt _ e.symm).2; omega)
      have h3 := Hv.mono (ok' := fun b => wr.heap.size ≤ b ∧ b < w1.heap.size) (fun b hb hl => ⟨hb, hl⟩) _ _ (hv hle2)
      refine Hv.mono ?_ _ _ (Hv.keep k2 _ _ h3)
      intro b hb' _
      refine ⟨by omega, fun e => ?_⟩
      rcases hb with h5 | h5
      · have := (hlt _ (h5.symm.trans e.symm)).2; omega
      · have := h5 b e.symm; omega
    · have k1 : Keeps (fun b => B ≤ b ∧ some b ≠ v.ownBlock) wr w1 := Keeps.of_grown hg1 (fun b hb e => by injection e; omega)
      have h3 := HvL.keep k1 _ _ h2
      have k2 : Keeps (fun b => (B ≤ b ∧ some b ≠ v.ownBlock) ∧ b < w1.heap.size) w1 w2 := Keeps.of_grown hgr (fun b hb e => hb.1.2 e)
      have h4 := HvL.mono (ok' := fun b => (B ≤ b ∧ some b ≠ v.ownBlock) ∧ b < w1.heap.size) (fun b hb hl => ⟨hb, hl⟩) _ _ h3
      refine HvL.mono ?_ _ _ (HvL.keep k2 _ _ h4)
      intro b hb' _
      refine ⟨hb'.1.1, fun e => ?_⟩
      rcases hb with h5 | h5
      · exact hb'.1.2 (e.trans h5)
      · have := h5 b e.symm; omega
/-- Beyond what may be nothing more is held. -/
theorem list_skip {rl : Except Int (List T × Nat)} {R : Nat} {s : ByteArray} {p d B : Nat} {w wr w1 : World} {v : Value} {g m n : Nat} {ts : List T} {xs : List Value} {t : T}
    (hL : LRel rl R s p d B w v wr g m ts xs) (hBw : w.heap.size ≤ B) (hc : ∃ c r, s.data.toList.drop g = c :: r ∧ c ≠ 101) (hrd : rd (s.data.toList.drop g) d = .ok (t, n)) (hd : d ≤ 8)
    (hI1 : IsRd w1 R s (g + n) d) (hg1 : wr.grownBy w1 (some R)) (hown : w1.ownsRow B 20 1 v m xs) (hle : ¬ g + n ≤ 65536) : ∃ ts', LRel rl R s p d B w v w1 (g + n) m ts' xs := by
  obtain ⟨c, r, hcr, hne⟩ := hc
  have hinv := rd_inv hd hrd
  have hge := hinv.ge
  have hl := hinv.le
  rw [List.length_drop] at hl
  simp at hl
  have hlo := hL.lo
  have hhi := hL.hi
  have hfew := hL.few
  refine ⟨ts ++ [t], hI1, by omega, by omega, grown_then hL.grown hg1, hown, by omega, ?_, fun h => absurd h hle⟩
  rw [hL.rest, prep_step ts (g - p) _ d c r hcr hne t n (by omega) hrd, List.drop_drop]
  congr 1
  omega
set_option maxRecDepth 100000 in
set_option maxHeartbeats 8000000 in
theorem list_of (N : Nat) (R : Nat) (s : ByteArray) (hs : s.size ≤ 1000000000)
    (ih : ∀ (p d : Nat) (w : World), IsRd w R s p d → s.size - p < N → d ≤ 8 → Calls Tryd.prog 66 #[.pointer (some ⟨R, 0, none⟩)] w (VPost (rd (s.data.toList.drop p) d) R s p d w))
    (p d : Nat) (w : World) (h : IsRd w R s p d) (hN : s.size - p ≤ N) (hd : d ≤ 8) (hp : p < s.size) (hl : s[p] = 108) :
    Calls Tryd.prog 89 #[.pointer (some ⟨R, 0, none⟩)] w (VPost (rd (s.data.toList.drop p) d) R s p d w) := by
  have hRlt := h.lt
  have c2 := h.c2
  have c1 := h.c1
  have f1 := h.f 1
  generalize hres : rd (s.data.toList.drop p) d = res
  rw [drop_cons s p hp, hl] at hres
  by_cases h8 : d = 8
  · subst h8
    have HR : Hid (res = .error 22) := Lib.hid (by rw [← hres, rd, if_neg (by decide), if_neg (by decide), if_pos rfl, if_pos (by omega)])
    clear hres
    go_enter Tryd.func89, Tryd.ntmps89
    go_wp2_with fail
    go_ret
    exact VPost.err HR.out rfl (World.grownBy.refl w _)
  · have hd7 : d < 8 := by omega
    have h8' : ((d : Int) == 8) = false := by
      rw [Bool.eq_false_iff, Ne, beq_iff_eq]
      omega
    rw [rd_l _ _ hd7] at hres
    generalize hrl : rdL (s.data.toList.drop (p + 1)) (d + 1) = rl at hres
    have HRL := Lib.hid hrl
    have HR := Lib.hid hres
    have HL := Lib.hid hl
    clear hrl hres hl h8
    have hI2 : IsRd (w.setCell ⟨R, 1, none⟩ (.int .i64 ((p : Int) + 1))) R s (p + 1) d := h.set1 (p + 1)
    have c2' := hI2.c2
    have f2' := hI2.f 2
    have hI3 : IsRd ((w.setCell ⟨R, 1, none⟩ (.int .i64 ((p : Int) + 1))).setCell ⟨R, 2, none⟩ (.int .i64 ((d : Int) + 1))) R s (p + 1) (d + 1) := hI2.set2 (d + 1)
    have hg3 : w.grownBy ((w.setCell ⟨R, 1, none⟩ (.int .i64 ((p : Int) + 1))).setCell ⟨R, 2, none⟩ (.int .i64 ((d : Int) + 1))) (some R) := grown_setCell (R := R) (grown_setCell (R := R) (World.grownBy.refl w _) ⟨R, 1, none⟩ rfl _) ⟨R, 2, none⟩ rfl _
    have hsz3 : ((w.setCell ⟨R, 1, none⟩ (.int .i64 ((p : Int) + 1))).setCell ⟨R, 2, none⟩ (.int .i64 ((d : Int) + 1))).heap.size = w.heap.size := by simp
    go_enter Tryd.func89, Tryd.ntmps89
    go_wp2_with fail
    generalize (w.setCell ⟨R, 1, none⟩ (.int .i64 ((p : Int) + 1))).setCell ⟨R, 2, none⟩ (.int .i64 ((d : Int) + 1)) = w3 at hI3 hg3 hsz3
    clear c2' f2' hI2
    go_loopw [3] (fun v wr => ∃ (g m : Nat) (ts : List T) (xs : List Value), LRel rl R s (p + 1) (d + 1) w.heap.size w v wr g m ts xs) (fun _ wr => match wr.cell? ⟨R, 1, none⟩ with | some (.int _ i) => s.size - i.toNat | _ => 0)
    case atStart => exact ⟨p + 1, 0, [], [], hI3, Nat.le_refl _, by omega, hg3, World.ownsRow_nil .., by omega, by rw [Nat.sub_self, prep_nil]; exact HRL.out.symm, fun _ => ⟨rfl, rfl⟩⟩
    case round =>
      obtain ⟨g, m, ts, xs, hL⟩ := hrel
      have hI := hL.at_
      by_cases hlt : g < s.size
      · by_cases h101 : s[g] = 101
        · have HE : Hid (rl = .ok (ts, g - p)) := Lib.hid (by
            rw [hL.rest, drop_cons s g hlt, h101, rdL_e]
            have := hL.lo
            simp only [prep, List.append_nil]
            congr 2
            omega)
          have HB : Hid (s[g] = 101) := Lib.hid h101
          clear h101
          go_wp2_with fail
          refine (more_yes R s g (d + 1) _ hI hlt).mono ?_
          rintro e w1 ⟨rfl, q1, rfl⟩
          go_wp2_with fail
          refine (is_z R s g (d + 1) 101 _ rfl true _ (hI.drewN q1) hs (by rw [drop_cons s g hlt, HB.out]; rfl)).mono ?_
          rintro e w2 ⟨rfl, q2, rfl⟩
          go_wp2_with fail
          refine (more_yes R s g (d + 1) _ (hI.drewN _) hlt).mono ?_
          rintro e w3' ⟨rfl, q3, rfl⟩
          have hIq := hI.drewN (q1 + q2 + q3)
          have k1 := hIq.c1
          have g1 := hIq.f 1
          have k2 : wr.cell? ⟨R, 2, none⟩ = some (.int .i64 ((d : Int) + 1)) := hI.c2
          have g2 := hIq.f 2
          go_wp2_with fail
          go_ret
          exact list_end hRlt hL (by rw [← HR.out, HE.out]) rfl ((hIq.set1 (g + 1)).set2 d) (grown_setCell (R := R) (grown_setCell (R := R) (grown_drewN (World.grownBy.refl _ _) _) ⟨R, 1, none⟩ rfl _) ⟨R, 2, none⟩ rfl _) hs
        · have hc : ∃ c r, s.data.toList.drop g = c :: r ∧ c ≠ 101 := ⟨_, _, drop_cons s g hlt, h101⟩
          have HC := Lib.hid hc
          have HB : Hid (false = ((s.data.toList.drop g).head? == some 101)) := Lib.hid (by
            rw [drop_cons s g hlt, eq_comm, Bool.eq_false_iff]
            simpa using h101)
          clear hc h101
          have hlo := hL.lo
          have hd1 : d + 1 ≤ 8 := by omega
          rcases hx : rd (s.data.toList.drop g) (d + 1) with x | ⟨t, n⟩
          · have HX := Lib.hid hx
            clear hx
            have HE : Hid (res = .error x) := Lib.hid (by
              obtain ⟨c, r, h1, h2⟩ := HC.out
              rw [← HR.out, hL.rest, prep_err ts _ _ _ c r h1 h2 x HX.out])
            go_wp2_with fail
            refine (more_yes R s g (d + 1) _ hI hlt).mono ?_
            rintro e w1 ⟨rfl, q1, rfl⟩
            go_wp2_with fail
            refine (is_z R s g (d + 1) 101 _ rfl false _ (hI.drewN q1) hs HB.out).mono ?_
            rintro e w2 ⟨rfl, q2, rfl⟩
            go_wp2_with fail
            refine (ih g (d + 1) _ (hI.drewN _) (by omega) hd1).mono ?_
            rw [HX.out]
            rintro e w3' ⟨rfl, hg4⟩
            have as0 := as_27_27 (.int .i64 x) w3'
            go_wp2_with fail
            go_ret
            exact VPost.err HE.out rfl (grown_then (grown_drewN hL.grown _) hg4)
          · have HX := Lib.hid hx
            clear hx
            go_wp2_with fail
            refine (more_yes R s g (d + 1) _ hI hlt).mono ?_
            rintro e w1 ⟨rfl, q1, rfl⟩
            go_wp2_with fail
            refine (is_z R s g (d + 1) 101 _ rfl false _ (hI.drewN q1) hs HB.out).mono ?_
            rintro e w2 ⟨rfl, q2, rfl⟩
            go_wp2_with fail
            refine (ih g (d + 1) _ (hI.drewN _) (by omega) hd1).mono ?_
            rw [HX.out]
            rintro e w4 ⟨y, rfl, hI4, hg4, hne, hv4⟩
            have k1 := hI4.c1
            have hBw : w.heap.size ≤ w4.heap.size := Nat.le_trans hL.grown.size hg4.size
            have hown4 : w4.ownsRow w.heap.size 20 1 u3 m xs := (show (wr.drewN (q1 + q2)).ownsRow w.heap.size 20 1 u3 m xs from hL.own).kept hg4 (.inr (fun e => by have := (own_lt hL.own _ e).1; omega))
            have hg5 : wr.grownBy w4 (some R) := grown_then (grown_drewN (World.grownBy.refl _ _) _) hg4
            have hm : m ≤ 1000000000 := by have := hL.few; have := hL.hi; omega
            have hgn : g < g + n := by have := (rd_inv hd1 HX.out).ge; omega
            have hkm := hI.c1
            obtain ⟨ky, y', rfl, has⟩ := hne.form
            have as0 := has w4
            clear has hne
            by_cases hle : g + n ≤ 65536
            · have hlez : ((g + n : Nat) : Int) ≤ 65536 := by omega
              go_wp2_with (at_builtin; refine append_iface rfl (.tmp 49) (.tmp 51) rfl w.heap.size _ m _ _ rfl rfl hown4 rfl hm hBw ?_; intro v' w5 hown5 hgr5 hob5)
              go_roundw
              case rel => exact ⟨g + n, m + 1, ts ++ [t], _, list_more hL hRlt hL.grown.size (Nat.le_refl _) HC.out HX.out hd1 hI4 hg5 hv4 hown5 hgr5 hob5⟩
              case measure =>
                have hI5 := (list_more hL hRlt hL.grown.size (Nat.le_refl _) HC.out HX.out hd1 hI4 hg5 hv4 hown5 hgr5 hob5).at_.c1
                rw [hI5, hkm]
                simp
                omega
            · have hlez : ¬ ((g + n : Nat) : Int) ≤ 65536 := by omega
              go_wp2_with fail
              go_roundw
              case rel =>
                obtain ⟨ts', hL'⟩ := list_skip hL (Nat.le_refl _) HC.out HX.out hd1 hI4 hg5 hown4 hle
                exact ⟨g + n, m, ts', xs, hL'⟩
              case measure =>
                rw [k1, hkm]
                simp
                omega
      · have HE : Hid (res = .error 21) := Lib.hid (by
          rw [← HR.out, hL.rest, drop_nil s g hlt, rdL]
          rfl)
        go_wp2_with fail
        refine (more_no R s g (d + 1) _ hI hlt).mono ?_
        rintro e w1 ⟨rfl, q1, rfl⟩
        go_wp2_with fail
        refine (more_no R s g (d + 1) _ (hI.drewN q1) hlt).mono ?_
        rintro e w2 ⟨rfl, q2, rfl⟩
        go_wp2_with fail
        go_ret
        exact VPost.err HE.out rfl (grown_drewN hL.grown _)
end Go.Proofs.YtmepahlmbopacaaDoor.Be
