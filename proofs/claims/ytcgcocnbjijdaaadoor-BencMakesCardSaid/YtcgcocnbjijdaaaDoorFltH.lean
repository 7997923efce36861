/- What hasOther of package benc returns: true or false, and false where all kinds are known. Conditions: the value reads as a tree. -/
import Derived.Test.YtcgcocnbjijdaaaDoorFltG
import Derived.Carry
set_option linter.unusedVariables false
set_option linter.unusedSimpArgs false
namespace Go.Proofs.YtcgcocnbjijdaaaDoor
open Go Go.RowKit

def kOk (k : Int) : Bool := decide (k = 1) || decide (k = 2) || decide (k = 3)
theorem isKind_any (k : Int) (w : World) : Calls Tryd.prog 51 #[.int .i64 k] w fun e w' => e = .returned (.bool (kOk k)) ∧ w = w' := by
  by_cases h1 : k = 1
  · subst h1
    go_enter Tryd.func51, Tryd.ntmps51
    go_wp2
    go_ret
    exact ⟨rfl, rfl⟩
  · by_cases h2 : k = 2
    · subst h2
      go_enter Tryd.func51, Tryd.ntmps51
      go_wp2
      go_ret
      exact ⟨rfl, rfl⟩
    · by_cases h3 : k = 3
      · subst h3
        go_enter Tryd.func51, Tryd.ntmps51
        go_wp2
        go_ret
        exact ⟨rfl, rfl⟩
      · have e1 : (k == 1) = false := by simpa using h1
        have e2 : (k == 2) = false := by simpa using h2
        have e3 : (k == 3) = false := by simpa using h3
        have e : kOk k = false := by simp [kOk, h1, h2, h3]
        rw [e]
        go_enter Tryd.func51, Tryd.ntmps51
        go_wp2
        go_ret
        exact ⟨rfl, rfl⟩
theorem kOk_of : ∀ t : T, kindsOk t = true → kOk t.k = true
  | .mk k n s l, h => by
    rcases kinds_cases h with h | h | ⟨h, _⟩
    all_goals subst h; rfl
theorem least {Q : Nat → Prop} (h : ∃ n, Q n) : ∃ n, Q n ∧ ∀ m, Q m → n ≤ m := by
  obtain ⟨n, hn⟩ := h
  induction n using Nat.strongRecOn with
  | ind n ih =>
    by_cases hm : ∃ m, m < n ∧ Q m
    · obtain ⟨m, hlt, hq⟩ := hm
      exact ih m hlt hq
    · exact ⟨n, hn, fun m hq => by
        by_cases hl : m < n
        · exact absurd ⟨m, hl, hq⟩ hm
        · omega⟩
open Classical in
/-- The least number of which it is true. -/
noncomputable def hOf (Q : Nat → Prop) : Nat := if h : ∃ n, Q n then (least h).choose else 0
theorem hOf_spec {Q : Nat → Prop} (h : ∃ n, Q n) : Q (hOf Q) := by
  rw [hOf, dif_pos h]
  exact (least h).choose_spec.1
theorem hOf_le {Q : Nat → Prop} {n : Nat} (h : Q n) : hOf Q ≤ n := by
  rw [hOf, dif_pos ⟨n, h⟩]
  exact (least ⟨n, h⟩).choose_spec.2 n h
/-- So deep are lists, none counted as none. -/
def HH : Nat → List (List T) → Prop
  | 0, ls => ls = []
  | h + 1, ls => AllH h ls
theorem HH.child {h : Nat} {ls ls' : List (List T)} (H : HH h ls) (hne : ls ≠ []) (hc : ∀ l' ∈ ls', ChildOf ls l') : ∃ h', h = h' + 1 ∧ HH h' ls' := by
  match h, H with
  | 0, H => exact absurd H hne
  | 1, H => exact ⟨0, rfl, AllH.none H hc⟩
  | h + 2, H => exact ⟨h + 1, rfl, AllH.child H hc⟩
/-- A level of lists, at a map. -/
structure HR (good : Bool) (B0 mb : Nat) (w : World) (lv : Value) (wr : World) (h : Nat) : Prop where
  ex : ∃ A m c vs ls, lv = .slice A m c ∧ m = ls.length ∧ m ≤ 1000000 ∧ ReadsQ (fun b => b ≠ mb) wr 1 A m vs ∧ LvL (fun b => b ≠ mb) (fun b => b < B0) wr vs ls ∧ HH h ls ∧ sumW ls ≤ 100000 ∧ (good = true → AllK ls)
  map : MapOk B0 wr mb
  bel : Below w.heap.size w wr
theorem lvl_one {w : World} {t : T} {A : Option Addr} {c b1 b2 : Nat} {ok ok2 : Nat → Prop} {f1 f2 : Nat × Nat} (h1 : w.heap[b1]? = some (.cells #[.int .i64 t.k, .int .i64 t.n, .string t.s, .slice A t.l.length c] 24 f1)) (h2 : w.heap[b2]? = some (.cells #[.slice (some ⟨b1, 0, none⟩) 1 1] 22 f2)) (hok1 : ok b1) (hok2 : ok b2)
    (hRA : RdA ok2 w t (.agg #[.int .i64 t.k, .int .i64 t.n, .string t.s, .slice A t.l.length c])) : ReadsQ ok w 1 (some ⟨b2, 0, none⟩) 1 [.slice (some ⟨b1, 0, none⟩) 1 1] ∧ LvL ok ok2 w [.slice (some ⟨b1, 0, none⟩) 1 1] [[t]] := by
  have l1 := (Array.getElem?_eq_some_iff.1 h1).1
  have l2 := (Array.getElem?_eq_some_iff.1 h2).1
  refine ⟨⟨rfl, fun _ => ⟨_, rfl, hok2, l2, fun j u hj => ?_⟩⟩, [t], [], rfl, ⟨_, 1, [.int .i64 t.k, .int .i64 t.n, .string t.s, .slice A t.l.length c], rfl, by simp, by omega, ⟨rfl, fun _ => ⟨_, rfl, hok1, l1, fun j u hj => ?_⟩⟩, ?_⟩, rfl⟩
  · rw [add_flat]
    match j, hj with
    | 0, hj => simpa [World.cell?, h2] using hj
    | j + 1, hj => simp at hj
  · rw [add_flat]
    match j, hj with
    | 0, hj => simpa [World.cell?, h1] using hj
    | 1, hj => simpa [World.cell?, h1] using hj
    | 2, hj => simpa [World.cell?, h1] using hj
    | 3, hj => simpa [World.cell?, h1] using hj
    | j + 4, hj => simp at hj
  · obtain ⟨A1, c1, xs, e, r⟩ := hRA
    obtain ⟨rfl, rfl⟩ : A = A1 ∧ c = c1 := by simpa using e
    have : Rd ok2 w t [.int .i64 t.k, .int .i64 t.n, .string t.s, .slice A t.l.length c] := by
      obtain ⟨k, n, s, l⟩ := t
      rw [Rd]
      exact ⟨A, c, xs, rfl, r⟩
    exact ⟨_, [], by simp, this, rfl⟩
def OthPost (t : T) (w : World) (e : Ending) (w' : World) : Prop := ∃ r, e = .returned (.bool r) ∧ (kindsOk t = true → r = false) ∧ Below w.heap.size w w'
theorem own_q {w : World} {base mb n : Nat} {A : Option Addr} {c : Nat} {xs : List Value} (h : w.ownsRow base 22 1 (.slice A n c) n xs) (hb : mb < base) : ReadsQ (fun b => b ≠ mb) w 1 A n xs := (ReadsP.of_own h).q.mono (fun b h1 _ => by omega)
set_option maxRecDepth 100000 in
set_option maxHeartbeats 16000000 in
theorem hasOther_any (t : T) (v : Value) (w : World) (hRA : RdA (fun b => b < w.heap.size) w t v) (hW : wt t ≤ 100000) :
    Calls Tryd.prog 37 #[v] w (OthPost t w) := by
  have hk := hRA
  obtain ⟨A, c, rfl, _⟩ := hRA.rd
  obtain ⟨w3, hw3⟩ : ∃ w3, w3 = (((w.alloc (.cells #[.int .i64 t.k, .int .i64 t.n, .string t.s, .slice A t.l.length c] 24)).alloc (.map #[] 0)).alloc (.cells #[.int .i64 t.k, .int .i64 t.n, .string t.s, .slice A t.l.length c] 24)).alloc (.cells #[.slice (some ⟨w.heap.size + 2, 0, none⟩) 1 1] 22) := ⟨_, rfl⟩
  have hbel : Below w.heap.size w w3 := by
    subst hw3
    exact ((((Below.refl _ _).alloc (Nat.le_refl _) _).alloc (by simp) _).alloc (by simp; omega) _).alloc (by simp; omega) _
  have hm : w3.heap[w.heap.size + 1]? = some (.map #[] 0) := by
    subst hw3
    rw [Below.heap_alloc _ _ _ (by simp), Below.heap_alloc _ _ _ (by simp)]
    have := heap_alloc_new (w.alloc (.cells #[.int .i64 t.k, .int .i64 t.n, .string t.s, .slice A t.l.length c] 24)) (.map #[] 0)
    simpa using this
  have h1 : w3.heap[w.heap.size + 2]? = some (.cells #[.int .i64 t.k, .int .i64 t.n, .string t.s, .slice A t.l.length c] 24 (0, 0)) := by
    subst hw3
    rw [Below.heap_alloc _ _ _ (by simp)]
    have := heap_alloc_new ((w.alloc (.cells #[.int .i64 t.k, .int .i64 t.n, .string t.s, .slice A t.l.length c] 24)).alloc (.map #[] 0)) (.cells #[.int .i64 t.k, .int .i64 t.n, .string t.s, .slice A t.l.length c] 24)
    simpa using this
  have h2 : w3.heap[w.heap.size + 3]? = some (.cells #[.slice (some ⟨w.heap.size + 2, 0, none⟩) 1 1] 22 (0, 0)) := by
    subst hw3
    have := heap_alloc_new (((w.alloc (.cells #[.int .i64 t.k, .int .i64 t.n, .string t.s, .slice A t.l.length c] 24)).alloc (.map #[] 0)).alloc (.cells #[.int .i64 t.k, .int .i64 t.n, .string t.s, .slice A t.l.length c] 24)) (.cells #[.slice (some ⟨w.heap.size + 2, 0, none⟩) 1 1] 22)
    simpa using this
  obtain ⟨hq, hl⟩ := lvl_one (ok := fun b => b ≠ w.heap.size + 1) h1 h2 (by omega) (by omega) (hk.keep (Keeps.of_below hbel (fun b hb _ => hb)))
  have hR : ∃ h, HR (kindsOk t) w.heap.size (w.heap.size + 1) w (.slice (some ⟨w.heap.size + 3, 0, none⟩) 1 1) w3 h := by
    refine ⟨hgt t + 1, ⟨⟨_, 1, 1, _, [[t]], rfl, rfl, by omega, hq, hl, ?_, by simpa [sumW, wtL] using hW, ?_⟩, (show MapNew w3 _ from hm).ok, hbel⟩⟩
    · intro l hl u hu
      simp at hl
      subst hl
      simp at hu
      subst hu
      omega
    · intro hg l hl u hu
      simp at hl
      subst hl
      simp at hu
      subst hu
      exact hg
  have HRR := Lib.hid hR
  obtain ⟨hblk, _, _⟩ := box_start w (.int .i64 t.k) (.int .i64 t.n) (.string t.s) (.slice A t.l.length c)
  clear hR hq hl h1 h2 hm hk hbel
  have hmm := @run_makeMap Tryd.prog
  go_enter Tryd.func37, Tryd.ntmps37
  go_wp2_with fail
  subst hw3
  generalize hgd : kindsOk t = good at *
  have HGD := Lib.hid hgd
  clear hgd hblk
  go_loopw [4] (fun lv wr => ∃ h, HR good w.heap.size (w.heap.size + 1) w lv wr h) (fun lv wr => hOf (HR good w.heap.size (w.heap.size + 1) w lv wr))
  case atStart => exact HRR.out
  case round =>
    have hsp := hOf_spec hrel
    generalize hh0 : hOf _ = h0 at hsp
    have HH0 := Lib.hid hh0
    clear hh0 hrel
    obtain ⟨⟨A1, m, c1, vs, ls, rfl, hml, hm9, hq, hl, hhh, hW, hK⟩, hmap, hbel⟩ := hsp
    have HML := Lib.hid hml
    have HHH := Lib.hid hhh
    have HK := Lib.hid hK
    have HQ := Lib.hid hq
    have HL := Lib.hid hl
    have HM := Lib.hid hmap
    clear hml hhh hK hq hl hmap
    obtain ⟨wo, rfl⟩ : ∃ wo : World, wo = wr := ⟨_, rfl⟩
    by_cases hm0 : 0 < m
    · have hm0z : (0 : Int) < (m : Int) := by omega
      go_wp2_with fail
      go_loopw [20] (fun i wr => ∃ k : Nat, i = .int .i64 (k : Int) ∧ k ≤ m ∧ wo = wr) (fun i _ => m - (intOf i).toNat)
      case atStart => exact ⟨0, rfl, Nat.zero_le _, rfl⟩
      case round =>
        obtain ⟨k, rfl, hk, rfl⟩ := hrel
        by_cases hlt : k < m
        · have hltz : (k : Int) < (m : Int) := by omega
          have hkl : k < ls.length := by have := HML.out; omega
          obtain ⟨y, hy, A2, c2, xs, rfl, hc1, hc2, hrx, hlx⟩ := HL.out.get hkl
          obtain ⟨ad, rfl, hadm, hadl, hcell⟩ := HQ.out.at_ (by omega)
          have hc := hcell k _ hy
          have hmem : ls[k] ∈ ls := List.getElem_mem hkl
          have HMEM := Lib.hid hmem
          clear hcell hy hmem
          generalize ls[k] = l at *
          generalize hll : l.length = len at hc hc1 hrx
          have HLEN := Lib.hid hll
          have HRX := Lib.hid hrx
          have HLX := Lib.hid hlx
          clear hll hrx hlx
          go_wp2_with fail
          go_loopw [26] (fun i wr => ∃ j : Nat, i = .int .i64 (j : Int) ∧ j ≤ len ∧ wo = wr) (fun i _ => len - (intOf i).toNat)
          case atStart => exact ⟨0, rfl, Nat.zero_le _, rfl⟩
          case round =>
            obtain ⟨j, rfl, hj, rfl⟩ := hrel
            by_cases hlt2 : j < len
            · have hltz2 : (j : Int) < (len : Int) := by omega
              have hjl : j < l.length := by have := HLEN.out; omega
              obtain ⟨b, o, A', c', rfl, hok, hblt, hRA, g0, g1, g2, g3⟩ := elem_atQ (HLEN.out.symm ▸ HRX.out) HLX.out hjl
              have hxm : l[j] ∈ l := List.getElem_mem hjl
              have HXM := Lib.hid hxm
              clear hxm hRA
              generalize l[j] = x at *
              have hx : good = true → kOk x.k = true := fun hg => kOk_of x (HK.out hg l HMEM.out x HXM.out)
              have HX := Lib.hid hx
              clear hx
              cases hkk : kOk x.k with
              | true =>
                go_wp2_with (go_at_call 51; refine (isKind_any x.k _).mono ?_; rintro e w' ⟨rfl, rfl⟩; rw [hkk])
                go_roundw
                case rel => exact ⟨j + 1, by go_num, by omega, by trivial⟩
                case measure => simp [intOf]; omega
              | false =>
                have hgf : good = true → False := fun hg => by have := HX.out hg; rw [hkk] at this; cases this
                have HGF := Lib.hid hgf
                clear hgf
                go_wp2_with (go_at_call 51; refine (isKind_any x.k _).mono ?_; rintro e w' ⟨rfl, rfl⟩; rw [hkk])
                go_ret
                exact ⟨_, rfl, fun hg => (HGF.out (HGD.out.symm.trans hg)).elim, hbel⟩
            · have hltz2 : ¬ (j : Int) < (len : Int) := by omega
              go_wp2_with fail
              refine ⟨⟨k + 1, by go_num, by omega, by trivial⟩, by simp [intOf]; omega⟩
        · have hltz : ¬ (k : Int) < (m : Int) := by omega
          have hsz := hbel.size
          have hne : ls ≠ [] := fun e => by have := HML.out; rw [e] at this; simp at this; omega
          have HNE := Lib.hid hne
          clear hne
          go_wp2_with fail
          refine (within_any ls w.heap.size (w.heap.size + 1) A1 m c1 vs wo HM.out (by omega) HQ.out HL.out hW hm9).mono ?_
          rintro e w5 ⟨v5, vs5, ls5, rfl, hI⟩
          obtain ⟨h', hh', hH'⟩ := HHH.out.child HNE.out hI.child
          obtain ⟨A5, c5, rfl, _⟩ := own_shape hI.own
          have hw5 := sumW_take ls 0
          have hsum := hI.sum
          have hlen5 := hI.len
          have hR5 : HR good w.heap.size (w.heap.size + 1) w (.slice A5 ls5.length c5) w5 h' :=
            ⟨⟨A5, _, c5, vs5, ls5, rfl, rfl, by omega, own_q hI.own (by obtain ⟨es, clock, hb, _⟩ := HM.out; exact (Array.getElem?_eq_some_iff.1 hb).1), hI.lvl.mono (fun b hb _ => by omega), hH', by omega, fun hg => AllK.child (HK.out hg) hI.child⟩, hI.map, hbel.grown hI.grown hsz (fun k hk => by injection hk; omega)⟩
          have HR5 := Lib.hid hR5
          have HH5 := Lib.hid hh'
          clear hR5 hh' hH' hI hw5
          go_wp2_with fail
          go_roundw
          case rel => exact ⟨_, HR5.out⟩
          case measure =>
            rw [HH0.out, HH5.out]
            exact Nat.lt_succ_of_le (hOf_le HR5.out)
    · have hm0z : ¬ (0 : Int) < (m : Int) := by omega
      go_wp2_with fail
      go_ret
      exact ⟨_, rfl, fun _ => rfl, hbel⟩
end Go.Proofs.YtcgcocnbjijdaaaDoor
