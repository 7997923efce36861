/- What Name of package glyph and Name of the document's answers return: whether the bytes are a name. Conditions: up to 100000 bytes. -/
import Derived.Test.YtdhiipnnmonkoaaDoorRefRunes
import Derived.Test.YtdhiipnnmonkoaaDoorText
set_option linter.unusedVariables false
namespace Go.Proofs.YtdhiipnnmonkoaaDoor
open Go Go.RowKit

/-- Whether k runes that may stand, and then these, are a name. -/
def okFrom : Nat → List Int → Bool
  | k, [] => decide (0 < k)
  | k, r :: t => if k = 16 then false else if standB r k then okFrom (k + 1) t else false
def markB (n : Int) : Bool := letterB n || (decide (48 ≤ n ∧ n ≤ 57) || decide (n = 45))
def nameB (l : List Int) : Bool := decide (1 ≤ l.length ∧ l.length ≤ 16) && (letterB (l.getD 0 0) && l.all markB)
theorem stand_pos (n : Int) {k : Nat} (h : 0 < k) : standB n k = markB n := by simp [standB, markB, h]
theorem stand_zero (n : Int) : standB n 0 = letterB n := by simp [standB]
theorem okFrom_pos : ∀ (l : List Int) (k : Nat), 0 < k → k ≤ 16 → okFrom k l = (decide (k + l.length ≤ 16) && l.all markB)
  | [], k, h, h' => by simp [okFrom, h, h']
  | r :: t, k, h, h' => by
    by_cases hk : k = 16
    · subst hk
      simp [okFrom]
      intro h
      omega
    · have ih := okFrom_pos t (k + 1) (by omega) (by omega)
      simp only [okFrom, if_neg hk, stand_pos r h, ih, List.length_cons, List.all_cons]
      rw [show k + 1 + t.length = k + (t.length + 1) by omega]
      cases markB r <;> simp
theorem letter_mark {n : Int} (h : letterB n = true) : markB n = true := by simp [markB, h]
theorem okFrom_zero (l : List Int) : okFrom 0 l = nameB l := by
  cases l with
  | nil => simp [okFrom, nameB]
  | cons r t =>
    have h1 := okFrom_pos t 1 (by omega) (by omega)
    simp only [okFrom, stand_zero, h1, nameB, List.length_cons, List.getD_cons_zero, List.all_cons]
    rw [if_neg (by omega)]
    cases hl : letterB r with
    | true =>
      rw [letter_mark hl]
      simp
      rw [show decide (1 + t.length ≤ 16) = decide (t.length ≤ 15) from decide_eq_decide.2 (by omega)]
    | false => simp
theorem mayStand_is (n : Int) (k : Nat) (b : Bool) (w : World) (h : standB n k = b) (h0 : 0 ≤ n) (h1 : n ≤ 1114111) (hk : k ≤ 1000) :
    Calls Tryd.prog 42 #[.int .i32 n, .int .i64 k] w fun e w' => e = .returned (.bool b) ∧ w = w' := by
  have := mayStand_any n k w h0 h1 hk
  rwa [h] at this
theorem stand_bad (k : Nat) : standB 65533 k = false := by simp [standB, letterB, greatB]

def NamePost (rs : List Int) (t : List UInt8) (w : World) (e : Ending) (w' : World) : Prop := e = .returned (.bool (decide (t = []) && okFrom 0 rs)) ∧ Below w.heap.size w w'
set_option maxHeartbeats 4000000 in
theorem name_any (s : ByteArray) (rs : List Int) (t : List UInt8) (hg : Good rs) (ht : t ≠ [] → BadHead t) (hs : s.data.toList = enc rs ++ t) (hsz : s.size ≤ 9223372036854775807) (w : World) : Calls Tryd.prog 25 #[.string s] w (NamePost rs t w) := by
  have HS := Lib.hid hs
  clear hs
  go_enter Tryd.func25, Tryd.ntmps25
  go_wp2
  have hit0 := World.iter_heap w s 0
  have hszJ : w.heap.size ≤ w.heap.size := Nat.le_refl _
  generalize hJ : w.heap.size = J at hit0 hszJ
  have hJw : w.heap.size ≤ J := by omega
  have HJ := Lib.hid hJ
  clear hJ hszJ
  go_loopw [3] (fun n wr => ∃ a b : List Int, Hid (rs = a ++ b) ∧ n = .int .i64 a.length ∧ a.length ≤ 16 ∧ wr.heap[J]? = some (.stringIter s (enc a).length) ∧ Below w.heap.size w wr ∧ Hid (okFrom 0 rs = okFrom a.length b)) (fun _ wr => s.size - wr.iterPos J)
  case atStart => exact ⟨[], rs, Lib.hid rfl, rfl, by simp, hit0, (Below.refl _ _).alloc (Nat.le_refl _) _, Lib.hid rfl⟩
  case round =>
    obtain ⟨a, b, HAB, rfl, ha16, hit, hbw, HOK⟩ := hrel
    have hgb : Good b := by
      have := HAB.out ▸ hg
      exact this.right
    have HE : Hid (s.data.toList = enc a ++ (enc b ++ t)) := Lib.hid (by rw [HS.out, HAB.out, enc_append, List.append_assoc])
    have hsum : (enc a).length + (enc b).length + t.length = s.size := by
      rw [← size_list, HE.out, List.length_append, List.length_append]
      omega
    cases b with
    | nil =>
      by_cases h0 : t = []
      · have hp : ¬ (enc a).length < s.size := by
          rw [enc_nil, List.length_nil, h0, List.length_nil] at hsum
          omega
        have hnx : ∀ ty, (Instr.next (.pointer (some ⟨J, 0, none⟩)) true ty).run Tryd.prog wr = _ := fun ty => Lib.run_next_end_at wr J s _ ty hit hp
        have HT := Lib.hid h0
        clear h0
        go_wp2
        go_ret
        refine ⟨ret_bool ?_, hbw⟩
        rw [HOK.out, HT.out]
        simp [okFrom]
      · have hlt0 : 0 < t.length := List.length_pos_iff.2 h0
        have hlt : (enc a).length < s.size := by omega
        have hdec : Utf8.decode s (enc a).length = (65533, 1) := decode_at_bad s a t (ht h0) (by rw [HE.out, enc_nil, List.nil_append])
        have hnx : ∀ ty, (Instr.next (.pointer (some ⟨J, 0, none⟩)) true ty).run Tryd.prog wr = .ok (.tuple #[.bool true, .int .i64 (enc a).length, .int .i32 65533]) (wr.iterAt J s ((enc a).length + 1)) := fun ty => by
          rw [Lib.run_next_any_at wr J s _ ty hit hlt, hdec]
          rfl
        have hbw2 := Lib.below_iterAt hbw hJw s ((enc a).length + 1)
        have hfin : (decide (t = []) && okFrom 0 rs) = false := by simp [h0]
        have HF := Lib.hid hfin
        clear hdec hfin
        generalize wr.iterAt J s ((enc a).length + 1) = W at hnx hbw2
        by_cases h16 : a.length = 16
        · have hb : ((a.length : Int) == 16) = true := by rw [beq_iff_eq]; omega
          go_wp2
          go_ret
          exact ⟨ret_bool HF.out.symm, hbw2⟩
        · have hb : ((a.length : Int) == 16) = false := by rw [beq_eq_false_iff_ne]; omega
          go_wp2_with (go_at_call 42; refine (mayStand_is _ _ false _ (stand_bad _) (by omega) (by omega) (by omega)).mono ?_; rintro e w' ⟨rfl, rfl⟩)
          go_ret
          exact ⟨ret_bool HF.out.symm, hbw2⟩
    | cons r b =>
      have hr : isR r = true := hgb.head
      obtain ⟨hp0, hp1, _⟩ := (isR_iff r).1 hr
      have hlr := encodeRune_len r
      have hlt : (enc a).length < s.size := by
        rw [enc_cons, List.length_append] at hsum
        omega
      have hdec : Utf8.decode s (enc a).length = (r.toNat, (Lib.encodeRune r).length) := decode_at_enc s a r (enc b ++ t) hr (by rw [HE.out, enc_cons, List.append_assoc])
      have hrn : ((r.toNat : Nat) : Int) = r := by omega
      have hnx : ∀ ty, (Instr.next (.pointer (some ⟨J, 0, none⟩)) true ty).run Tryd.prog wr = .ok (.tuple #[.bool true, .int .i64 (enc a).length, .int .i32 r]) (wr.iterAt J s (enc (a ++ [r])).length) := fun ty => by
        rw [Lib.run_next_any_at wr J s _ ty hit hlt, hdec, enc_snoc, List.length_append]
        simp only
        rw [hrn]
      have hit2 := Lib.iterAt_heap wr J s _ (enc (a ++ [r])).length hit
      have hbw2 := Lib.below_iterAt hbw hJw s (enc (a ++ [r])).length
      have hmo : s.size - (enc (a ++ [r])).length < s.size - wr.iterPos J := by
        have : wr.iterPos J = (enc a).length := by simp [World.iterPos, hit]
        rw [this, enc_snoc, List.length_append]
        omega
      clear hdec hrn
      generalize wr.iterAt J s (enc (a ++ [r])).length = W at hnx hit2 hbw2
      generalize hP : (enc (a ++ [r])).length = P2 at hit2 hmo
      have HP := Lib.hid hP
      clear hP hit hbw
      by_cases h16 : a.length = 16
      · have hb : ((a.length : Int) == 16) = true := by rw [beq_iff_eq]; omega
        have hfin : (decide (t = []) && okFrom 0 rs) = false := by rw [HOK.out, okFrom, if_pos h16]; simp
        have HF := Lib.hid hfin
        clear hfin
        go_wp2
        go_ret
        exact ⟨ret_bool HF.out.symm, hbw2⟩
      · have hb : ((a.length : Int) == 16) = false := by rw [beq_eq_false_iff_ne]; omega
        cases hst : standB r a.length with
        | false =>
          have hfin : (decide (t = []) && okFrom 0 rs) = false := by rw [HOK.out, okFrom, if_neg h16, hst]; simp
          have HF := Lib.hid hfin
          have HST := Lib.hid hst
          clear hfin hst
          go_wp2_with (go_at_call 42; refine (mayStand_is _ _ false _ HST.out hp0 hp1 (by omega)).mono ?_; rintro e w' ⟨rfl, rfl⟩)
          go_ret
          exact ⟨ret_bool HF.out.symm, hbw2⟩
        | true =>
          have HST := Lib.hid hst
          clear hst
          go_wp2_with (go_at_call 42; refine (mayStand_is _ _ true _ HST.out hp0 hp1 (by omega)).mono ?_; rintro e w' ⟨rfl, rfl⟩)
          go_roundw
          case rel => exact ⟨a ++ [r], b, Lib.hid (by rw [HAB.out]; simp), by rw [List.length_append]; go_num, by rw [List.length_append, List.length_singleton]; omega, by rw [HP.out]; exact hit2, hbw2, Lib.hid (by rw [HOK.out, okFrom, if_neg h16, HST.out, List.length_append]; rfl)⟩
          case measure =>
            have : W.iterPos J = P2 := by simp [World.iterPos, hit2]
            rw [this]
            exact hmo
def NameIs (b : Bool) (w : World) (e : Ending) (w' : World) : Prop := e = .returned (.bool b) ∧ Below w.heap.size w w'
theorem name_ok (s : ByteArray) (rs : List Int) (hg : Good rs) (hs : s.data.toList = enc rs) (hsz : s.size ≤ 9223372036854775807) (w : World) : Calls Tryd.prog 25 #[.string s] w (NameIs (nameB rs) w) := by
  refine (name_any s rs [] hg (fun h => absurd rfl h) (by rw [hs, List.append_nil]) hsz w).mono ?_
  rintro e w' ⟨h1, h2⟩
  refine ⟨h1.trans (ret_bool ?_), h2⟩
  rw [okFrom_zero]
  simp
theorem name_no (s : ByteArray) (hn : NoText s.data.toList) (hsz : s.size ≤ 9223372036854775807) (w : World) : Calls Tryd.prog 25 #[.string s] w (NameIs false w) := by
  obtain ⟨rs, t, hg, hs, hne, hb⟩ := hn
  refine (name_any s rs t hg (fun _ => hb) hs hsz w).mono ?_
  rintro e w' ⟨h1, h2⟩
  exact ⟨h1.trans (ret_bool (by simp [hne])), h2⟩
end Go.Proofs.YtdhiipnnmonkoaaDoor
