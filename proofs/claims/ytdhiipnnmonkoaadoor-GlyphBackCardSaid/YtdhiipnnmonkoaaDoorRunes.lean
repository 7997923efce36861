/- What Runes of package glyph returns: the runes of a text, or that the bytes are no text. Conditions: up to 100000 bytes; Go's two tables of UTF-8 lie as start-up lays them. -/
import Derived.Test.YtdhiipnnmonkoaaDoorShelf
import Derived.Test.YtdhiipnnmonkoaaDoorSmallB
import Derived.Test.YtdhiipnnmonkoaaDoorMem
import Derived.LoopTactic
import Derived.BigCall
import Derived.Lib.Hide
set_option linter.unusedVariables false
namespace Go.Proofs.YtdhiipnnmonkoaaDoor
open Go Go.RowKit

def Tabs (w : World) : Prop := Lib.Utf8Tabs (Tryd.lays196_ren.g 3) (Tryd.lays196_ren.g 4) w
theorem Tabs.below {w w' : World} (h : Tabs w) (hb : Below w.heap.size w w') : Tabs w' := Utf8Tabs_below h hb
theorem valid_call (s : ByteArray) (b : Bool) (w : World) (hs : s.size ≤ 100000) (hT : Tabs w) (hb : Lib.validD s.data.toList = b) :
    Calls Tryd.prog 27 #[.string s] w fun e w' => e = .returned (.bool b) ∧ Below w.heap.size w w' := by
  have := Tryd.utf8_ValidString s w (by omega) hT
  rw [hb] at this
  exact this
theorem count_call (s : ByteArray) (n : Nat) (w : World) (hs : s.size ≤ 100000) (hb : Lib.runeCount s = n) :
    Calls Tryd.prog 28 #[.string s] w fun e w' => e = .returned (.int .i64 (n : Int)) ∧ ∃ pos, w' = w.iter s pos := by
  have := Tryd.utf8_RuneCountInString s w (by omega)
  rw [hb] at this
  exact this
theorem int_info : (Tryd.prog.info? 3).map (fun i => (i.zero, i.size, i.bytes)) = some (some (.int .i64 0), 1, 8) := by kernel_rfl

def RunesOk (rs : List Int) (w : World) (e : Ending) (w' : World) : Prop :=
  ∃ A n c, e = .returned (.tuple #[.slice A n c, .int .i64 0]) ∧ Reads w' w'.heap.size 1 A n (ints rs) ∧ Below w.heap.size w w'
def RunesNo (w : World) (e : Ending) (w' : World) : Prop := e = .returned (.tuple #[.slice none 0 0, .int .i64 10]) ∧ Below w.heap.size w w'

theorem runes_no (s : ByteArray) (hn : NoText s.data.toList) (hsz : s.size ≤ 100000) (w : World) (hT : Tabs w) : Calls Tryd.prog 13 #[.string s] w (RunesNo w) := by
  have hv := Lib.hid (validD_no hn)
  go_enter Tryd.func13, Tryd.ntmps13
  go_wp2_with (go_at_call 27; refine (valid_call s false _ hsz hT hv.out).mono ?_; rintro e w1 ⟨rfl, hb1⟩)
  go_ret2
  exact ⟨rfl, hb1⟩
set_option maxHeartbeats 2000000 in
theorem runes_ok (s : ByteArray) (rs : List Int) (hg : Good rs) (hs : s.data.toList = enc rs) (hsz : s.size ≤ 100000) (w : World) (hT : Tabs w) : Calls Tryd.prog 13 #[.string s] w (RunesOk rs w) := by
  have hv := Lib.hid (show Lib.validD s.data.toList = true by rw [hs]; exact validD_enc rs hg)
  have hc := Lib.hid (runeCount_enc s rs hg hs)
  have hl : rs.length ≤ s.size := by rw [← size_list, hs]; exact (enc_len rs).1
  have HS := Lib.hid hs
  clear hs
  obtain ⟨i0, hi, hz0, hz1, hz2⟩ := info_parts int_info
  go_enter Tryd.func13, Tryd.ntmps13
  go_wp2_with (go_at_call 27; refine (valid_call s true _ hsz hT hv.out).mono ?_; rintro e w1 ⟨rfl, hb1⟩)
  go_wp2_with fail
  refine (count_call s rs.length _ hsz hc.out).mono ?_
  rintro e w2' ⟨rfl, pos, rfl⟩
  have hb2 : Below w.heap.size w (w1.iter s pos) := hb1.alloc hb1.size _
  generalize w1.iter s pos = w2 at hb2
  go_wp2_with (at_make; refine wpList_make_own _ rfl _ _ 23 rfl w.heap.size 3 i0 (.int .i64 0) 1 Tryd.underlying23 hi hz0 hz1 .i64 .i64 _ rs.length rfl rfl rfl (by rw [hz2]; omega) (by unfold maxLen; omega) hb2.size ?_; intro w3 hown3 hgrow3)
  have hb3 : Below w.heap.size w w3 := hb2.grown hgrow3 hb2.size (by intro k hk; cases hk)
  have hsz3 : w.heap.size ≤ w3.heap.size := hb3.size
  generalize hJ : w3.heap.size = J at hsz3
  have HJ := Lib.hid hJ
  clear hJ
  go_loopw [4] (fun v wr => ∃ a b : List Int, Hid (rs = a ++ b) ∧ wr.ownsRow w.heap.size 3 1 v a.length (ints a) ∧ wr.heap[J]? = some (.stringIter s (enc a).length) ∧ Below w.heap.size w wr) (fun _ wr => s.size - wr.iterPos J)
  case atStart =>
    refine ⟨[], rs, Lib.hid rfl, hown3.alloc _, ?_, hb3.alloc hb3.size _⟩
    rw [← HJ.out]
    exact World.iter_heap w3 s 0
  case round =>
    obtain ⟨a, b, HAB, hown, hit, hbw⟩ := hrel
    have hgb : Good b := by
      have := HAB.out ▸ hg
      exact this.right
    have HE : Hid (s.data.toList = enc a ++ enc b) := Lib.hid (by rw [HS.out, HAB.out, enc_append])
    cases b with
    | nil =>
      have hp : ¬ (enc a).length < s.size := by
        have := HE.out
        rw [← size_list, this, enc_nil, List.append_nil]
        omega
      have hnx : ∀ ty, (Instr.next (.pointer (some ⟨J, 0, none⟩)) true ty).run Tryd.prog wr = _ := fun ty => Lib.run_next_end_at wr J s _ ty hit hp
      go_wp2
      go_ret2
      obtain ⟨A, c, rfl⟩ := own_shape hown
      refine ⟨A, _, c, rfl, ?_, hbw⟩
      have := HAB.out
      rw [List.append_nil] at this
      rw [this]
      exact Reads.of_own hown
    | cons r b =>
      have hr : isR r = true := hgb.head
      have hp := (isR_iff r).1 hr
      have hlr := encodeRune_len r
      have hlt : (enc a).length < s.size := by
        have h1 := HE.out
        rw [enc_cons] at h1
        rw [← size_list, h1, List.length_append, List.length_append]
        omega
      have hla : a.length < rs.length := by
        have h1 := HAB.out
        rw [h1]
        simp
      have hdec : Utf8.decode s (enc a).length = (r.toNat, (Lib.encodeRune r).length) := decode_at_enc s a r (enc b) hr (by rw [HE.out, enc_cons])
      have hrn : ((r.toNat : Nat) : Int) = r := by omega
      have hnx : ∀ ty, (Instr.next (.pointer (some ⟨J, 0, none⟩)) true ty).run Tryd.prog wr = .ok (.tuple #[.bool true, .int .i64 (enc a).length, .int .i32 r]) (wr.iterAt J s (enc (a ++ [r])).length) := fun ty => by
        rw [Lib.run_next_any_at wr J s _ ty hit hlt, hdec, enc_snoc, List.length_append]
        simp only
        rw [hrn]
      have hit2 := Lib.iterAt_heap wr J s _ (enc (a ++ [r])).length hit
      have hown2 := ownsRow_iter hown hit (enc (a ++ [r])).length
      have hne := own_ne_iter hown2 hit2
      have hbw2 := Lib.below_iterAt hbw hsz3 s (enc (a ++ [r])).length
      have hmo : s.size - (enc (a ++ [r])).length < s.size - wr.iterPos J := by
        have : wr.iterPos J = (enc a).length := by simp [World.iterPos, hit]
        rw [this, enc_snoc, List.length_append]
        omega
      clear hdec hrn
      generalize wr.iterAt J s (enc (a ++ [r])).length = W at hnx hit2 hown2 hbw2
      generalize hP : (enc (a ++ [r])).length = P2 at hit2 hmo
      have HP := Lib.hid hP
      clear hP hit hown hbw
      go_wp2_with (at_builtin; refine wpList_append_own _ rfl (.tmp 18) (.tmp 21) _ rfl w.heap.size 3 i0 (.int .i64 0) 1 8 Tryd.underlying23 hi hz0 hz1 hz2 rfl (by decide) _ _ _ rfl (hown2.alloc _) ⟨W.heap.size, 0, none⟩ 1 1 [.int .i64 r] rfl rfl ?c1 ?c2 ?c3 ?c4 ?c5 ?_)
      case c1 => intro j u hj; match j, hj with | 0, hj => simp at hj; subst hj; simp [Addr.add] | j + 1, hj => simp at hj
      case c2 => intro u hu; simp at hu; subst hu; rfl
      case c3 => unfold maxLen; omega
      case c4 => omega
      case c5 => have := hbw2.size; simp; omega
      intro v' w1' hown3' hgrow3' _
      have hit3 := iter_grown hgrow3' (iter_alloc _ hit2) hne
      have hbw3 : Below w.heap.size w w1' := (hbw2.alloc hbw2.size _).grown hgrow3' (by have := hbw2.size; simp; omega) (fun k hk => (hown2.lt k hk).1)
      go_wp2
      go_roundw
      case rel => exact ⟨a ++ [r], b, Lib.hid (by rw [HAB.out]; simp), by simpa using hown3', by rw [HP.out]; exact hit3, hbw3⟩
      case measure =>
        have : w1'.iterPos J = P2 := by simp [World.iterPos, hit3]
        rw [this]
        exact hmo
end Go.Proofs.YtdhiipnnmonkoaaDoor
