/- What Fold of package glyph returns: the text with small letters in place of great ones, or that the bytes are no text. Conditions: up to 100000 bytes; Go's two tables of UTF-8 lie as start-up lays them. -/
import Derived.Test.YtdhiipnnmonkoaaDoorRunes
import Derived.Test.YtdhiipnnmonkoaaDoorText
set_option linter.unusedVariables false
namespace Go.Proofs.YtdhiipnnmonkoaaDoor
open Go Go.RowKit

def foldR (n : Int) : Int := if greatB n then n + 32 else n
def foldL (l : List Int) : List Int := l.map foldR
theorem greatB_iff (n : Int) : greatB n = true ↔ (65 ≤ n ∧ n ≤ 90) ∨ (192 ≤ n ∧ n ≤ 222 ∧ n ≠ 215) ∨ (913 ≤ n ∧ n ≤ 937 ∧ n ≠ 930) ∨ (1040 ≤ n ∧ n ≤ 1071) := by simp [greatB]
theorem foldR_cases (n : Int) : (greatB n = true ∧ foldR n = n + 32 ∧ 65 ≤ n ∧ n ≤ 1071) ∨ (greatB n = false ∧ foldR n = n) := by
  cases h : greatB n with
  | true =>
    have := (greatB_iff n).1 h
    exact .inl ⟨rfl, by simp [foldR, h], by omega, by omega⟩
  | false => exact .inr ⟨rfl, by simp [foldR, h]⟩
theorem isR_fold {n : Int} (h : isR n = true) : isR (foldR n) = true := by
  rcases foldR_cases n with ⟨_, e, _, _⟩ | ⟨_, e⟩
  · rw [e, isR_iff]; omega
  · rw [e]; exact h
theorem Good.fold {l : List Int} (h : Good l) : Good (foldL l) := by
  intro r hr
  obtain ⟨x, hx, rfl⟩ := List.mem_map.1 hr
  exact isR_fold (h x hx)

set_option maxHeartbeats 2000000 in
theorem fold_no (s : ByteArray) (hn : NoText s.data.toList) (hsz : s.size ≤ 100000) (w : World) (hT : Tabs w) : Calls Tryd.prog 19 #[.string s] w (TextNo w) := by
  have hv := Lib.hid (validD_no hn)
  go_enter Tryd.func19, Tryd.ntmps19
  go_wp2_with (go_at_call 27; refine (valid_call s false _ hsz hT hv.out).mono ?_; rintro e w1 ⟨rfl, hb1⟩)
  go_ret2
  exact ⟨rfl, hb1⟩
set_option maxHeartbeats 4000000 in
theorem fold_ok (s : ByteArray) (rs : List Int) (hg : Good rs) (hs : s.data.toList = enc rs) (hsz : s.size ≤ 100000) (w : World) (hT : Tabs w) : Calls Tryd.prog 19 #[.string s] w (TextOk (foldL rs) w) := by
  have hv := Lib.hid (show Lib.validD s.data.toList = true by rw [hs]; exact validD_enc rs hg)
  have hl : rs.length ≤ s.size := by rw [← size_list, hs]; exact (enc_len rs).1
  have HS := Lib.hid hs
  clear hs
  go_enter Tryd.func19, Tryd.ntmps19
  go_wp2_with (go_at_call 27; refine (valid_call s true _ hsz hT hv.out).mono ?_; rintro e w1 ⟨rfl, hb1⟩)
  refine (Tryd.Builder_Grow_fresh w.heap.size w1.heap.size s.size _ hb1.size (heap_alloc_new w1 _) (by have := hb1.size; simp; omega) (by omega)).mono ?_
  rintro e w2 ⟨rfl, hI2, hbg2⟩
  have hb2 : Below w.heap.size w w2 := (hb1.alloc hb1.size _).trans hbg2
  have hlt2 : w1.heap.size < w2.heap.size := by have := hbg2.size; obtain ⟨_, v, hbk, _⟩ := hI2; exact (Array.getElem?_eq_some_iff.1 hbk).1
  have hsz1 := hb1.size
  generalize hB1 : w1.heap.size = B1 at hI2 hlt2 hsz1
  clear hB1
  go_wp2
  have hI3 : Lib.IsBuilderF 45 5 w.heap.size B1 (Lib.byteCells []) (w2.iter s 0) := Lib.IsBuilderF.alloc (Lib.IsBuilderF.of (Or.inr hI2)) _
  have hit0 := World.iter_heap w2 s 0
  generalize hJ : w2.heap.size = J at hlt2 hit0
  have HJ := Lib.hid hJ
  clear hJ
  go_loopw [] (fun wr => ∃ a b : List Int, Hid (rs = a ++ b) ∧ Lib.IsBuilderF 45 5 w.heap.size B1 (Lib.byteCells (enc (foldL a))) wr ∧ wr.heap[J]? = some (.stringIter s (enc a).length) ∧ Below w.heap.size w wr) (fun wr => s.size - wr.iterPos J)
  case atStart => exact ⟨[], rs, Lib.hid rfl, hI3, hit0, hb2.alloc hb2.size _⟩
  case round =>
    obtain ⟨a, b, HAB, hI, hit, hbw⟩ := hrel
    have hgb : Good b := by
      have := HAB.out ▸ hg
      exact this.right
    have HE : Hid (s.data.toList = enc a ++ enc b) := Lib.hid (by rw [HS.out, HAB.out, enc_append])
    cases b with
    | nil =>
      have hp : ¬ (enc a).length < s.size := by
        have := HE.out
        rw [← size_list, this, enc_nil, List.append_nil]
        omega
      have hnx : ∀ ty, (Instr.next (.pointer (some ⟨J, 0, none⟩)) true ty).run Tryd.prog wr = _ := fun ty => Lib.run_next_end_at wr J s _ ty hit hp
      go_wp2_with (go_at_call 32; refine (Tryd.Builder_String_any_k w.heap.size B1 _ _ hI hbw.size).mono ?_; rintro e w3 ⟨rfl, _, b1, _⟩)
      go_ret2
      have e1 := HAB.out
      rw [List.append_nil] at e1
      subst e1
      exact ⟨rfl, hbw.trans b1⟩
    | cons r b =>
      have hr : isR r = true := hgb.head
      obtain ⟨hp0, hp1, hp2⟩ := (isR_iff r).1 hr
      have hlr := encodeRune_len r
      have hlt : (enc a).length < s.size := by
        have h1 := HE.out
        rw [enc_cons] at h1
        rw [← size_list, h1, List.length_append, List.length_append]
        omega
      have hla : a.length < rs.length := by
        have h1 := HAB.out
        rw [h1]
        simp
      have hel : (enc (foldL a)).length ≤ 4 * a.length := by
        have := (enc_len (foldL a)).2
        simpa [foldL] using this
      have hdec : Utf8.decode s (enc a).length = (r.toNat, (Lib.encodeRune r).length) := decode_at_enc s a r (enc b) hr (by rw [HE.out, enc_cons])
      have hrn : ((r.toNat : Nat) : Int) = r := by omega
      have hnx : ∀ ty, (Instr.next (.pointer (some ⟨J, 0, none⟩)) true ty).run Tryd.prog wr = .ok (.tuple #[.bool true, .int .i64 (enc a).length, .int .i32 r]) (wr.iterAt J s (enc (a ++ [r])).length) := fun ty => by
        rw [Lib.run_next_any_at wr J s _ ty hit hlt, hdec, enc_snoc, List.length_append]
        simp only
        rw [hrn]
      have hit2 := Lib.iterAt_heap wr J s _ (enc (a ++ [r])).length hit
      have hI2 := hI.iterAt hit (enc (a ++ [r])).length
      have hbw2 := Lib.below_iterAt hbw (k := J) (by omega) s (enc (a ++ [r])).length
      have hmo : s.size - (enc (a ++ [r])).length < s.size - wr.iterPos J := by
        have : wr.iterPos J = (enc a).length := by simp [World.iterPos, hit]
        rw [this, enc_snoc, List.length_append]
        omega
      clear hdec hrn
      generalize wr.iterAt J s (enc (a ++ [r])).length = W at hnx hit2 hI2 hbw2
      generalize hP : (enc (a ++ [r])).length = P2 at hit2 hmo
      have HP := Lib.hid hP
      clear hP hit hI hbw
      have hne : J ≠ B1 := by omega
      rcases foldR_cases r with ⟨hgr, hfe, _, _⟩ | ⟨hgr, hfe⟩
      all_goals
        have HG := Lib.hid hgr
        have HF := Lib.hid hfe
        clear hgr hfe
        go_wp2_with (go_at_call 36; refine (isGreat_any _ _).mono ?_; rw [HG.out]; rintro e w' ⟨rfl, rfl⟩)
        refine (WriteRune_k w.heap.size B1 _ _ (by omega) (by omega) _ hI2 (by rw [Lib.byteCells_length]; omega) hbw2.size).mono ?_
        rintro e w4 ⟨rfl, h1, b1, k1⟩
        have hit3 := k1.iter hit2 hne
        go_wp2
        go_roundw
        case rel =>
          refine ⟨a ++ [r], b, Lib.hid (by rw [HAB.out]; simp), ?_, by rw [HP.out]; exact hit3, hbw2.trans b1⟩
          rw [show foldL (a ++ [r]) = foldL a ++ [foldR r] by simp [foldL], enc_snoc, Lib.byteCells_append, Lib.byteCells_encodeRune, HF.out]
          exact Or.inr h1
        case measure =>
          have : w4.iterPos J = P2 := by simp [World.iterPos, hit3]
          rw [this]
          exact hmo
end Go.Proofs.YtdhiipnnmonkoaaDoor
