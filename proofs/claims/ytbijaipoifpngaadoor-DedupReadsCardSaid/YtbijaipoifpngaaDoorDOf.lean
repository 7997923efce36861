/- What Of of package dedup returns: the table of a text, or that it is none. Conditions: none. -/
import Derived.Test.YtbijaipoifpngaaDoorDTake
set_option linter.unusedVariables false
set_option linter.unusedSimpArgs false
set_option maxRecDepth 100000
namespace Go.Proofs.YtbijaipoifpngaaDoor.Be
open Go Go.RowKit
def OfPost (r : Option (List E)) (w : World) (e : Ending) (w' : World) : Prop := match r with
  | some q => ∃ p, e = .returned (.tuple #[.pointer (some ⟨p, 0, none⟩), .int .i64 0]) ∧ TabAt w' p q ∧ w.heap.size ≤ p ∧ Below w.heap.size w w'
  | none => e = .returned (.tuple #[.pointer none, .int .i64 20]) ∧ Below w.heap.size w w'
theorem OfPost.no {r : Option (List E)} {w w' : World} {e : Ending} (h : r = none) (he : e = .returned (.tuple #[.pointer none, .int .i64 20])) (hb : Below w.heap.size w w') : OfPost r w e w' := by
  subst h
  exact ⟨he, hb⟩
theorem OfPost.yes {r : Option (List E)} {q : List E} {w w' : World} {e : Ending} {p : Nat} (h : r = some q) (he : e = .returned (.tuple #[.pointer (some ⟨p, 0, none⟩), .int .i64 0])) (ht : TabAt w' p q) (hp : w.heap.size ≤ p) (hb : Below w.heap.size w w') : OfPost r w e w' := by
  subst h
  exact ⟨p, he, ht, hp, hb⟩
theorem only_err {bs : List UInt8} {x : Int} (h : onlyRes bs = .error x) : x ≠ 0 := by
  unfold onlyRes at h
  cases ht : takeRes bs with
  | error y =>
    rw [ht] at h
    simp only [Except.error.injEq] at h
    subst h
    have := takeRes_errs ht
    omega
  | ok p =>
    obtain ⟨t, n⟩ := p
    rw [ht] at h
    simp only at h
    split at h
    · simp only [Except.error.injEq] at h
      omega
    · cases h
theorem only_len {bs : List UInt8} {t : T} (h : onlyRes bs = .ok t) : bs.length ≤ 65536 := by
  unfold onlyRes at h
  cases ht : takeRes bs with
  | error y => rw [ht] at h; cases h
  | ok p =>
    obtain ⟨t', n⟩ := p
    rw [ht] at h
    simp only at h
    obtain ⟨_, h2⟩ := takeRes_ok ht
    split at h
    · cases h
    · omega
theorem ofM_long {bs : List UInt8} (h : 65536 < bs.length) : ofM bs = none := by
  unfold ofM
  cases ho : onlyRes bs with
  | error x => rfl
  | ok t =>
    have := only_len ho
    omega
/-- What is kept from round to round. -/
structure ORel (w wA wr : World) (l : List T) (p k : Nat) (bz : Int) (q : List E) (r : Option (List E)) : Prop where
  tab : TabAt wr p q
  grown : wA.grownBy wr (some p)
  rest : ofRows bz q (l.drop k) = r
def contM (bz : Int) (rs : List T) : Option (Int × List E) → Option (List E)
  | none => none
  | some (c, q') => if bz < c then ofRows c q' rs else none
theorem ofRows_cont (before : Int) (q : List E) (r : T) (rs : List T) : ofRows before q (r :: rs) = contM before rs (takeM q r) := by
  rw [ofRows_step]
  cases takeM q r <;> rfl
set_option maxHeartbeats 8000000 in
theorem of_any (s : ByteArray) (hs : s.size ≤ 1000000000) (w : World) : Calls Tryd.prog 17 #[.string s] w (OfPost (ofM s.data.toList) w) := by
  by_cases hl : 65536 < s.size
  · have hlz : (65536 : Int) < (s.size : Int) := by omega
    have hof : ofM s.data.toList = none := ofM_long (by simpa using hl)
    rw [hof]
    clear hof
    go_enter Tryd.func17, Tryd.ntmps17
    go_wp2_with fail
    go_ret2
    exact ⟨rfl, Below.refl _ _⟩
  · have hlz : ¬ (65536 : Int) < (s.size : Int) := by omega
    have honly := only_any s hs w
    unfold ofM
    cases ho : onlyRes s.data.toList with
    | error x =>
      rw [ho] at honly
      have hx := only_err ho
      have hxb : (x != 0) = true := by simpa using hx
      clear ho
      go_enter Tryd.func17, Tryd.ntmps17
      go_wp2_with fail
      refine honly.mono ?_
      rintro e w1 ⟨rfl, hb1⟩
      clear honly
      simp only [zeroA]
      go_wp2_with fail
      go_ret2
      exact ⟨rfl, hb1.alloc hb1.size _⟩
    | ok t =>
      rw [ho] at honly
      simp only
      clear ho
      obtain ⟨tk, tn, ts, tl⟩ := t
      by_cases hk3 : (T.mk tk tn ts tl).k = 3
      · rw [if_pos hk3]
        have hk4 : tk = 3 := hk3
        clear hk3
        subst hk4
        show Calls Tryd.prog 17 #[.string s] w (OfPost (ofRows (-1) q0 tl) w)
        obtain ⟨R, hR⟩ : ∃ R, ofRows (-1) q0 tl = R := ⟨_, rfl⟩
        rw [hR]
        have HR := Lib.hid hR
        clear hR
        go_enter Tryd.func17, Tryd.ntmps17
        go_wp2_with fail
        refine honly.mono ?_
        rintro e w1 ⟨v, rfl, ⟨A, c, xs, rfl, h2, hlc, hcm, hr, hrl⟩, hb1⟩
        simp only [T.k, T.n, T.s, T.l] at h2 hlc hcm hr hrl ⊢
        clear honly h2
        have hb1a : Below w.heap.size w (w1.alloc (.cells #[.int .i64 3, .int .i64 tn, .string ts, .slice A tl.length c] 68)) := hb1.alloc hb1.size _
        have hnew := new_any (w1.alloc (.cells #[.int .i64 3, .int .i64 tn, .string ts, .slice A tl.length c] 68))
        have hV3 := Row.new w1 68 [.int .i64 3, .int .i64 tn, .string ts, .slice A tl.length c]
        have hKp : ∀ w' : World, Below w1.heap.size w1 w' → ReadsP (fun b => w.heap.size ≤ b ∧ b < w1.heap.size) w' 4 A tl.length xs ∧ RdL (fun b => w.heap.size ≤ b ∧ b < w1.heap.size) w' tl xs := fun w' hb => by
          have k0 : Keeps (fun b => w.heap.size ≤ b ∧ b < w1.heap.size) w1 w' := Keeps.of_below hb (fun b hb _ => hb.2)
          exact ⟨(hr.mono (fun b hb hl => ⟨hb, hl⟩)).keep k0, RdL.keep k0 _ _ (RdL.mono (fun b hb hl => ⟨hb, hl⟩) _ _ hrl)⟩
        have hlm : tl.length ≤ maxLen := by omega
        have HKP := Lib.hid hKp
        have hln : (tl.length : Int) ≤ 9223372036854775807 := by unfold maxLen at hlm; omega
        clear hr hrl hlc hcm hKp hlm
        obtain ⟨n, hn⟩ : ∃ n, tl.length = n := ⟨_, rfl⟩
        have HN := Lib.hid hn
        rw [hn] at hnew hV3 hb1a hln
        rw [hn]
        clear hn
        go_wp2_with fail
        refine hnew.mono ?_
        rintro e w2 ⟨p, rfl, ht2, hp2, hb2⟩
        have c3 : w2.cell? ⟨w1.heap.size, 3, none⟩ = some (.slice A n c) := (hb2.cell (p := ⟨w1.heap.size, 3, none⟩) (by simp)).trans (hV3.cell rfl)
        have hp3 : w1.heap.size + 1 ≤ p := by simpa using hp2
        have hb12 : Below w1.heap.size w1 w2 := ((Below.refl _ w1).alloc (Nat.le_refl _) _).trans (hb2.mono (by simp))
        have hbw2 : Below w.heap.size w w2 := hb1.trans (hb12.mono hb1.size)
        have hpl := ht2.row.lt
        have hO0 : ORel w w2 w2 tl p 0 (-1) q0 R := ⟨ht2, grown_refl _ _, by rw [List.drop_zero]; exact HR.out⟩
        have HO0 := Lib.hid hO0
        clear hnew hV3 hb1a ht2 hp2 hb2 hO0
        go_wp2_with fail
        go_loopw [7, 31] (fun vb vi wr => ∃ (k : Nat) (bz : Int) (q : List E), vb = .int .i64 bz ∧ vi = .int .i64 (k : Int) ∧ k ≤ n ∧ ORel w w2 wr tl p k bz q R) (fun _ vi _ => n - (intOf vi).toNat)
        case atStart => exact ⟨0, -1, q0, rfl, rfl, by omega, HO0.out⟩
        case round =>
          obtain ⟨k, bz, q, rfl, rfl, hk, hO⟩ := hrel
          by_cases hkn : k < n
          · have hkz : (k : Int) < (n : Int) := by omega
            have hkl : k < tl.length := by have := HN.out; omega
            obtain ⟨hrd, hrl⟩ := HKP.out w2 hb12
            obtain ⟨b, o, A', c', hA, hbb, hblt, hbf, hRA', e0, e1, e2, e3⟩ := elem_at hrd hrl hkl
            subst hA
            have hbp : b ≠ p := by omega
            have hsame := fun j : Nat => World.cell?_of_block (w := w2) (w' := wr) (a := ⟨b, o + k * 4 + j, none⟩) (grown_keep hO.grown hblt hbp)
            have hkeep : Keeps (fun b => w.heap.size ≤ b ∧ b < w1.heap.size) w2 wr := Keeps.of_grown hO.grown (fun b hb e => by injection e with e; omega)
            have hRAw := hRA'.keep hkeep
            have hrest : R = contM bz (tl.drop (k + 1)) (takeM q tl[k]) := by
              rw [← hO.rest, List.drop_eq_getElem_cons hkl, ofRows_cont]
            generalize tl[k] = el at *
            have d0 := (hsame 0).trans e0
            have d1 := (hsame 1).trans e1
            have d2 := (hsame 2).trans e2
            have d3 := (hsame 3).trans e3
            obtain ⟨ek, en, es, ell⟩ := el
            simp only [T.k, T.n, T.s, T.l] at d0 d1 d2 d3 hRAw
            rw [Nat.add_zero] at d0
            have hbx : Below wr.heap.size wr (wr.alloc (.cells #[.int .i64 ek, .int .i64 en, .string es, .slice A' ell.length c'] 68)) := (Below.refl _ _).alloc (Nat.le_refl _) _
            have hRAx := hRAw.keep (Keeps.of_below (ok := fun b => w.heap.size ≤ b ∧ b < w1.heap.size) hbx (fun b hb hl => hl))
            have htk := dtake_any (hO.tab.on hbx) (.mk ek en es ell) _ _ hRAx
            have hwr := hO.grown.size
            have HG := Lib.hid hO.grown
            have HREST := Lib.hid hrest
            have HBX := Lib.hid hbx
            clear hRA' hRAw hRAx e0 e1 e2 e3 hsame hkeep hrd hrl hrest hbx hO
            go_wp2_with fail
            refine htk.mono ?_
            rintro e w5 ⟨cl, okb, q', rfl, ht5, hg5, htm⟩
            have hG5 : w2.grownBy w5 (some p) := grown_then (grown_then HG.out (grown_below HBX.out (some p))) hg5
            have hb5 : Below w.heap.size w w5 := hbw2.grown hG5 hbw2.size (fun g hg => by injection hg with hg; subst hg; have := hb1.size; omega)
            have HTM := Lib.hid htm
            have HT5 := Lib.hid ht5
            have HG5 := Lib.hid hG5
            have HB5 := Lib.hid hb5
            clear htk htm ht5 hG5 hg5 hb5
            rcases okb with _ | _
            · have hR := HREST.out
              rw [HTM.out] at hR
              simp only [contM] at hR
              have HRN := Lib.hid hR
              clear hR
              go_wp2_with fail
              go_ret2
              exact OfPost.no HRN.out rfl HB5.out
            · have hR := HREST.out
              rw [HTM.out] at hR
              simp only [if_true, contM] at hR
              by_cases hcl : bz < cl
              · rw [if_pos hcl] at hR
                have HRN := Lib.hid hR
                have hcl2 : ¬ cl ≤ bz := by omega
                clear hR
                go_wp2_with fail
                exact ⟨⟨k + 1, cl, q', rfl, by go_num, by omega, HT5.out, HG5.out, HRN.out.symm⟩, by simp [intOf]; omega⟩
              · rw [if_neg hcl] at hR
                have HRN := Lib.hid hR
                have hcl2 : cl ≤ bz := by omega
                clear hR
                go_wp2_with fail
                go_ret2
                exact OfPost.no HRN.out rfl HB5.out
          · obtain rfl : k = n := by omega
            have hR := hO.rest
            rw [← HN.out, List.drop_length, ofRows] at hR
            have HRN := Lib.hid hR
            have HT := Lib.hid hO.tab
            have hbf : Below w.heap.size w wr := hbw2.grown hO.grown hbw2.size (fun g hg => by injection hg with hg; subst hg; have := hb1.size; omega)
            have HBF := Lib.hid hbf
            clear hR hO hbf
            go_wp2_with fail
            go_ret2
            exact OfPost.yes HRN.out.symm rfl HT.out (by have := hb1.size; omega) HBF.out
      · rw [if_neg hk3]
        have hk4 : (tk != 3) = true := by simpa using (fun h => hk3 h : ¬ tk = 3)
        clear hk3
        go_enter Tryd.func17, Tryd.ntmps17
        go_wp2_with fail
        refine honly.mono ?_
        rintro e w1 ⟨v, rfl, ⟨A, c, xs, rfl, h2, hlc, hcm, hr, hrl⟩, hb1⟩
        simp only [T.k, T.n, T.s, T.l] at hr ⊢
        clear honly h2 hlc hcm hr hrl
        go_wp2_with fail
        go_ret2
        exact ⟨rfl, hb1.alloc hb1.size _⟩
end Go.Proofs.YtbijaipoifpngaaDoor.Be
