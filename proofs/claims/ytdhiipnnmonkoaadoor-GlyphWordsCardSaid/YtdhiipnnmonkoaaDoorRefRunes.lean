/- What Runes of the document's answers returns: the runes of a text, or that the bytes are no text. Conditions: up to 100000 bytes. -/
import Derived.Test.YtdhiipnnmonkoaaDoorTake
import Derived.Test.YtdhiipnnmonkoaaDoorRunes
import Derived.WalkSpells
import Derived.Lib.IndexBytes
set_option linter.unusedVariables false
namespace Go.Proofs.YtdhiipnnmonkoaaDoor
open Go Go.RowKit

def RefPost (rs : List Int) (t : List UInt8) (w : World) (e : Ending) (w' : World) : Prop := (t = [] → RunesOk rs w e w') ∧ (t ≠ [] → RunesNo w e w')
theorem tail_data (s : ByteArray) (k : Nat) (a t : List UInt8) (h : s.data.toList = a ++ t) (hk : k = a.length) : (s.extract k s.size).data.toList = t := by
  rw [Lib.extract_to_end, h, hk, List.drop_left]
set_option maxHeartbeats 2000000 in
theorem refRunes_any (s : ByteArray) (rs : List Int) (t : List UInt8) (hg : Good rs) (ht : t ≠ [] → BadHead t) (hs : s.data.toList = enc rs ++ t) (hsz : s.size ≤ 100000) (w : World) :
    Calls Tryd.prog 14 #[.string s] w (RefPost rs t w) := by
  have hl : rs.length ≤ s.size := by rw [← size_list, hs, List.length_append]; have := (enc_len rs).1; omega
  have HS := Lib.hid hs
  clear hs
  obtain ⟨i0, hi, hz0, hz1, hz2⟩ := info_parts int_info
  go_enter Tryd.func14, Tryd.ntmps14
  go_wp2
  go_loopw [4, 5] (fun v i wr => ∃ a b : List Int, Hid (rs = a ++ b) ∧ i = .int .i64 (enc a).length ∧ wr.ownsRow w.heap.size 3 1 v a.length (ints a) ∧ Below w.heap.size w wr) (fun _ i _ => s.size - (intOf i).toNat)
  case atStart => exact ⟨[], rs, Lib.hid rfl, rfl, World.ownsRow_nil .., Below.refl _ _⟩
  case round =>
    obtain ⟨a, b, HAB, rfl, hown, hbw⟩ := hrel
    have hgb : Good b := by
      have := HAB.out ▸ hg
      exact this.right
    have HE : Hid (s.data.toList = enc a ++ (enc b ++ t)) := Lib.hid (by rw [HS.out, HAB.out, enc_append, List.append_assoc])
    have hea : (enc a).length ≤ s.size := by rw [← size_list, HE.out, List.length_append]; omega
    have HT : Hid ((s.extract (enc a).length s.size).data.toList = enc b ++ t) := Lib.hid (tail_data s _ _ _ HE.out rfl)
    have hts : (s.extract (enc a).length s.size).size ≤ 9223372036854775807 := by
      rw [← size_list]
      have := congrArg List.length HE.out
      rw [size_list, List.length_append] at this
      rw [HT.out]
      omega
    cases b with
    | nil =>
      by_cases h0 : t = []
      · have hp : ¬ (enc a).length < s.size := by
          have := HE.out
          rw [← size_list, this, enc_nil, h0]
          simp
        go_wp2
        go_ret2
        obtain ⟨A, c, rfl⟩ := own_shape hown
        refine ⟨fun _ => ⟨A, _, c, rfl, ?_, hbw⟩, fun hn => absurd h0 hn⟩
        have := HAB.out
        rw [List.append_nil] at this
        rw [this]
        exact Reads.of_own hown
      · have hlt0 : 0 < t.length := List.length_pos_iff.2 h0
        have hp : (enc a).length < s.size := by
          have := HE.out
          rw [← size_list, this, List.length_append, List.length_append]
          omega
        have htp : 0 < (s.extract (enc a).length s.size).size := by
          rw [← size_list, HT.out, List.length_append]
          omega
        have hbd : BadHead (s.extract (enc a).length s.size).data.toList := by
          rw [HT.out]
          exact ht h0
        have HB := Lib.hid hbd
        clear hbd
        go_wp2_with (go_at_call 29; refine (take_bad _ _ hts htp HB.out).mono ?_; rintro e w' ⟨rfl, rfl⟩)
        go_ret2
        exact ⟨fun hn => absurd hn h0, fun _ => ⟨rfl, hbw⟩⟩
    | cons r b =>
      have hr : isR r = true := hgb.head
      have hlr := encodeRune_len r
      have hp : (enc a).length < s.size := by
        have := HE.out
        rw [enc_cons] at this
        rw [← size_list, this, List.length_append, List.length_append, List.length_append]
        omega
      have hsum : (enc a).length + (Lib.encodeRune r).length ≤ s.size := by
        have := HE.out
        rw [enc_cons] at this
        rw [← size_list, this, List.length_append, List.length_append, List.length_append]
        omega
      have hla : a.length < rs.length := by
        have h1 := HAB.out
        rw [h1]
        simp
      have H2 : Hid ((s.extract (enc a).length s.size).data.toList = Lib.encodeRune r ++ (enc b ++ t)) := Lib.hid (by rw [HT.out, enc_cons, List.append_assoc])
      have hk0 : ((((Lib.encodeRune r).length : Nat) : Int) == 0) = false := by rw [beq_eq_false_iff_ne]; omega
      go_wp2_with fail
      refine (take_rune _ _ hts r hr _ H2.out).mono ?_
      rintro e w' ⟨rfl, rfl⟩
      go_wp2_with (at_builtin; refine wpList_append_own _ rfl (.tmp 21) (.tmp 23) _ rfl w.heap.size 3 i0 (.int .i64 0) 1 8 Tryd.underlying23 hi hz0 hz1 hz2 rfl (by decide) _ _ _ rfl (hown.alloc _) ⟨wr.heap.size, 0, none⟩ 1 1 [.int .i64 r] rfl rfl ?c1 ?c2 ?c3 ?c4 ?c5 ?_)
      case c1 => intro j u hj; match j, hj with | 0, hj => simp at hj; subst hj; simp [Addr.add] | j + 1, hj => simp at hj
      case c2 => intro u hu; simp at hu; subst hu; rfl
      case c3 => unfold maxLen; omega
      case c4 => omega
      case c5 => have := hbw.size; simp; omega
      intro v' w1' hown3' hgrow3' _
      have hbw3 : Below w.heap.size w w1' := (hbw.alloc hbw.size _).grown hgrow3' (by have := hbw.size; simp; omega) (fun k hk => (hown.lt k hk).1)
      go_wp2
      go_roundw
      case rel => exact ⟨a ++ [r], b, Lib.hid (by rw [HAB.out]; simp), by rw [enc_snoc, List.length_append]; go_num, by simpa using hown3', hbw3⟩
      case measure => simp [intOf]; omega
theorem refRunes_ok (s : ByteArray) (rs : List Int) (hg : Good rs) (hs : s.data.toList = enc rs) (hsz : s.size ≤ 100000) (w : World) : Calls Tryd.prog 14 #[.string s] w (RunesOk rs w) :=
  (refRunes_any s rs [] hg (fun h => absurd rfl h) (by rw [hs, List.append_nil]) hsz w).mono fun _ _ h => h.1 rfl
theorem refRunes_no (s : ByteArray) (hn : NoText s.data.toList) (hsz : s.size ≤ 100000) (w : World) : Calls Tryd.prog 14 #[.string s] w (RunesNo w) := by
  obtain ⟨rs, t, hg, hs, hne, hb⟩ := hn
  exact (refRunes_any s rs t hg (fun _ => hb) hs hsz w).mono fun _ _ h => h.2 hne
end Go.Proofs.YtdhiipnnmonkoaaDoor
