/- What Words of package glyph returns: the words of a text, or that the bytes are no text. Conditions: up to 100000 bytes; Go's two tables of UTF-8 lie as start-up lays them. -/
import Derived.Test.YtdhiipnnmonkoaaDoorWordsM
import Derived.Test.YtdhiipnnmonkoaaDoorRefText
import Derived.WalkSpells
import Derived.Lib.IndexBytes
import Derived.Laws.Closers25
import Derived.Test.YtdhiipnnmonkoaaDoorAppend
set_option linter.unusedVariables false
namespace Go.Proofs.YtdhiipnnmonkoaaDoor
open Go Go.RowKit

theorem clone_any (s : ByteArray) (w : World) (hs : s.size ≤ 100000) : Calls Tryd.prog 50 #[.string s] w fun e w' => e = .returned (.string s) ∧ Below w.heap.size w w' := by
  go_enter Tryd.func50, Tryd.ntmps50
  go_wp2_with (go_at_call 55; refine (Tryd.stringslite_Clone _ _ (by omega)).mono ?_; rintro e w1 ⟨rfl, hb1⟩)
  go_ret
  exact ⟨rfl, hb1⟩
theorem runeLen_any (r : Int) (w : World) : Calls Tryd.prog 40 #[.int .i32 r] w fun e w' => e = .returned (.int .i64 (Lib.runeLen r)) ∧ w = w' :=
  (Tryd.utf8_RuneLen r w).mono fun _ _ h => ⟨h.1, h.2.symm⟩
theorem appendWord_none (A : Option Addr) (n c : Nat) (w : World) : Calls Tryd.prog 39 #[.slice A n c, .string ⟨#[]⟩] w fun e w' => e = .returned (.slice A n c) ∧ w = w' := by
  go_enter Tryd.func39, Tryd.ntmps39
  go_wp2
  go_ret
  exact ⟨rfl, rfl⟩
set_option maxHeartbeats 1000000 in
theorem appendWord_some (base : Nat) (v : Value) (n : Nat) (xs : List Value) (s : ByteArray) (w : World) (hown : w.ownsRow base 9 1 v n xs) (hbase : base ≤ w.heap.size) (hs : s.size ≤ 100000) (h0 : 0 < s.size) (hn : n ≤ 100000) :
    Calls Tryd.prog 39 #[v, .string s] w fun e w' => ∃ v', e = .returned v' ∧ w'.ownsRow base 9 1 v' (n + 1) (xs ++ [.string s]) ∧ w.grownBy w' v.ownBlock := by
  have hne : s.toList.isEmpty = false := by
    rw [← decide_eq_emptyBytes s, decide_eq_false_iff_not]
    rintro rfl
    exact absurd h0 (by decide)
  go_enter Tryd.func39, Tryd.ntmps39
  go_wp2_with fail
  refine (clone_any _ _ hs).mono ?_
  rintro e w1 ⟨rfl, hb1⟩
  have hown1 := hown.kept (grown_below hb1 none) (by
    by_cases h : v.ownBlock = none
    · exact .inl h
    · exact .inr h)
  go_wp2_with (at_builtin; refine append_str rfl (.tmp 8) (.tmp 11) rfl base _ n xs s rfl hown1 rfl (by omega) (by have := hb1.size; omega) ?_; intro v' w2 hown2 hgrow2)
  go_ret
  exact ⟨_, rfl, hown2, grown_then (grown_below hb1 _) hgrow2⟩

theorem own_cap {w : World} {base : Nat} {e : TypeId} {size : Nat} {v : Value} {n : Nat} {xs : List Value} (h : w.ownsRow base e size v n xs) : ∃ A c, v = .slice A n c ∧ n ≤ c ∧ c ≤ maxLen := by
  rcases h.2 with ⟨rfl, rfl⟩ | ⟨g, cap, cur, rfl, _, _, h1, h2, _⟩
  · exact ⟨_, _, rfl, Nat.le_refl _, Nat.zero_le _⟩
  · exact ⟨_, _, rfl, h1, h2⟩
def WordsOk (rs : List Int) (w : World) (e : Ending) (w' : World) : Prop :=
  ∃ A n c, e = .returned (.tuple #[.slice A n c, .int .i64 0]) ∧ Reads w' w'.heap.size 1 A n (strs (wordsL rs)) ∧ Below w.heap.size w w' ∧ n ≤ c ∧ c ≤ maxLen
theorem words_no (s : ByteArray) (hn : NoText s.data.toList) (hsz : s.size ≤ 100000) (w : World) (hT : Tabs w) : Calls Tryd.prog 21 #[.string s] w (RunesNo w) := by
  have hv := Lib.hid (validD_no hn)
  go_enter Tryd.func21, Tryd.ntmps21
  go_wp2_with (go_at_call 27; refine (valid_call s false _ hsz hT hv.out).mono ?_; rintro e w1 ⟨rfl, hb1⟩)
  go_ret2
  exact ⟨rfl, hb1⟩
theorem cut_data (s : ByteArray) (i j : Nat) (a b c : List UInt8) (h : s.data.toList = a ++ (b ++ c)) (hi : i = a.length) (hj : j = a.length + b.length) : (s.extract i j).data.toList = b := by
  rw [Lib.extract_data, h, hi, List.drop_left, hj, Nat.add_sub_cancel_left, List.take_left]
theorem bytes_ext {s : ByteArray} {l : List UInt8} (h : s.data.toList = l) : s = ⟨l.toArray⟩ := by rw [← h]

set_option maxHeartbeats 8000000 in
theorem words_ok (s : ByteArray) (rs : List Int) (hg : Good rs) (hs : s.data.toList = enc rs) (hsz : s.size ≤ 100000) (w : World) (hT : Tabs w) : Calls Tryd.prog 21 #[.string s] w (WordsOk rs w) := by
  have hv := Lib.hid (show Lib.validD s.data.toList = true by rw [hs]; exact validD_enc rs hg)
  have hl : rs.length ≤ s.size := by rw [← size_list, hs]; exact (enc_len rs).1
  have hwl : (wordsL rs).length ≤ rs.length := by have := words_len rs []; simpa [wordsL] using this
  have HS := Lib.hid hs
  clear hs
  go_enter Tryd.func21, Tryd.ntmps21
  go_wp2_with (go_at_call 27; refine (valid_call s true _ hsz hT hv.out).mono ?_; rintro e w1 ⟨rfl, hb1⟩)
  have hit0 := World.iter_heap w1 s 0
  have hsz1 := hb1.size
  generalize hJ : w1.heap.size = J at hit0 hsz1
  have HJ := Lib.hid hJ
  clear hJ
  go_loopw [4, 5] (fun v bg wr => ∃ (pre cur b : List Int) (done : List (List Int)), Hid (rs = pre ++ (cur ++ b)) ∧ bg = .int .i64 (enc pre).length ∧ wr.ownsRow w.heap.size 9 1 v done.length (strs done) ∧ wr.heap[J]? = some (.stringIter s (enc (pre ++ cur)).length) ∧ Below w.heap.size w wr ∧ Hid (wordsL rs = done ++ wordsGo cur b)) (fun _ _ wr => s.size - wr.iterPos J)
  case atStart => exact ⟨[], [], rs, [], Lib.hid rfl, rfl, World.ownsRow_nil .., hit0, hb1.alloc hb1.size _, Lib.hid rfl⟩
  case round =>
    obtain ⟨pre, cur, b, done, HAB, rfl, hown, hit, hbw, HW⟩ := hrel
    have hgb : Good b := by
      have := HAB.out ▸ hg
      exact this.right.right
    have HE : Hid (s.data.toList = enc pre ++ (enc cur ++ enc b)) := Lib.hid (by rw [HS.out, HAB.out, enc_append, enc_append])
    have HC : Hid (enc (pre ++ cur) = enc pre ++ enc cur) := Lib.hid (enc_append pre cur)
    have hsum : (enc pre).length + (enc cur).length + (enc b).length = s.size := by
      rw [← size_list, HE.out, List.length_append, List.length_append]
      omega
    have hij : (enc (pre ++ cur)).length = (enc pre).length + (enc cur).length := by rw [HC.out, List.length_append]
    have hij1 : (enc pre).length ≤ (enc (pre ++ cur)).length := by omega
    have hij2 : (enc (pre ++ cur)).length ≤ s.size := by omega
    have hij3 : (enc pre).length ≤ s.size := by omega
    have hdn : done.length ≤ rs.length := by
      have := congrArg List.length HW.out
      rw [List.length_append] at this
      omega
    cases b with
    | nil =>
      have hp : ¬ (enc (pre ++ cur)).length < s.size := by
        rw [enc_nil, List.length_nil] at hsum
        omega
      have HX : Hid ((s.extract (enc pre).length s.size).data.toList = enc cur) := Lib.hid (cut_data s _ _ _ (enc cur) [] (by rw [HE.out, enc_nil]) rfl (by rw [enc_nil, List.length_nil] at hsum; omega))
      clear hij
      have hnx : ∀ ty, (Instr.next (.pointer (some ⟨J, 0, none⟩)) true ty).run Tryd.prog wr = _ := fun ty => Lib.run_next_end_at wr J s _ ty hit hp
      obtain ⟨A, c, rfl, hcap1, hcap2⟩ := own_cap hown
      have HCAP := Lib.hid hcap1
      have HCAP2 := Lib.hid hcap2
      clear hcap1 hcap2
      by_cases hcur : cur = []
      · subst hcur
        have hwd : s.extract (enc pre).length s.size = ⟨#[]⟩ := bytes_ext HX.out
        go_wp2_with (go_at_call 39; refine (appendWord_none _ _ _ _).mono ?_; rintro e w2 ⟨rfl, rfl⟩)
        go_ret2
        refine ⟨A, _, c, rfl, ?_, hbw, HCAP.out, HCAP2.out⟩
        have := HW.out
        rw [show wordsGo [] [] = [] from rfl, List.append_nil] at this
        rw [this]
        exact Reads.of_own hown
      · have hcl : 0 < (enc cur).length := by have := (enc_len cur).1; have := List.length_pos_iff.2 hcur; omega
        have HY : Hid (s.extract (enc pre).length s.size = ⟨(enc cur).toArray⟩) := Lib.hid (bytes_ext HX.out)
        have hwz : (s.extract (enc pre).length s.size).size = (enc cur).length := by rw [← size_list, HX.out]
        have hw0 : 0 < (s.extract (enc pre).length s.size).size := by omega
        have hw1 : (s.extract (enc pre).length s.size).size ≤ 100000 := by omega
        clear hwz
        go_wp2_with fail
        refine (appendWord_some w.heap.size _ _ _ _ _ hown hbw.size hw1 hw0 (by omega)).mono ?_
        rintro e w2 ⟨v', rfl, hown2, hg2⟩
        obtain ⟨A2, c2, rfl, hq1, hq2⟩ := own_cap hown2
        have HQ1 := Lib.hid hq1
        have HQ2 := Lib.hid hq2
        clear hq1 hq2
        go_wp2
        go_ret2
        refine ⟨A2, _, c2, rfl, ?_, hbw.grown hg2 hbw.size (fun k hk => (hown.lt k hk).1), HQ1.out, HQ2.out⟩
        have := HW.out
        rw [show wordsGo cur [] = [cur] from flush_cons hcur] at this
        rw [this, strs_append]
        have h2 := Reads.of_own hown2
        rw [HY.out] at h2
        exact h2
    | cons r b =>
      have hr : isR r = true := hgb.head
      have hp := (isR_iff r).1 hr
      obtain ⟨hp0, hp1, _⟩ := hp
      have hlr := encodeRune_len r
      have hlt : (enc (pre ++ cur)).length < s.size := by
        rw [enc_cons, List.length_append] at hsum
        omega
      have hrl : (enc (pre ++ cur)).length + (Lib.encodeRune r).length ≤ s.size := by
        rw [enc_cons, List.length_append] at hsum
        omega
      have hdec : Utf8.decode s (enc (pre ++ cur)).length = (r.toNat, (Lib.encodeRune r).length) := decode_at_enc s (pre ++ cur) r (enc b) hr (by rw [HE.out, HC.out, enc_cons, List.append_assoc])
      have hrn : ((r.toNat : Nat) : Int) = r := by omega
      have hnx : ∀ ty, (Instr.next (.pointer (some ⟨J, 0, none⟩)) true ty).run Tryd.prog wr = .ok (.tuple #[.bool true, .int .i64 (enc (pre ++ cur)).length, .int .i32 r]) (wr.iterAt J s (enc (pre ++ cur ++ [r])).length) := fun ty => by
        rw [Lib.run_next_any_at wr J s _ ty hit hlt, hdec, enc_snoc, List.length_append]
        simp only
        rw [hrn]
      have hit2 := Lib.iterAt_heap wr J s _ (enc (pre ++ cur ++ [r])).length hit
      have hown2 := ownsRow_iter hown hit (enc (pre ++ cur ++ [r])).length
      have hne := own_ne_iter hown2 hit2
      have hbw2 := Lib.below_iterAt hbw hsz1 s (enc (pre ++ cur ++ [r])).length
      have hmo : s.size - (enc (pre ++ cur ++ [r])).length < s.size - wr.iterPos J := by
        have : wr.iterPos J = (enc (pre ++ cur)).length := by simp [World.iterPos, hit]
        rw [this, enc_snoc, List.length_append]
        omega
      have HX : Hid ((s.extract (enc pre).length (enc (pre ++ cur)).length).data.toList = enc cur) := Lib.hid (cut_data s _ _ _ (enc cur) (enc (r :: b)) HE.out rfl hij)
      have HP : Hid ((enc (pre ++ cur ++ [r])).length = (enc (pre ++ cur)).length + (Lib.encodeRune r).length) := Lib.hid (by rw [enc_snoc, List.length_append])
      clear hdec hrn hij
      generalize wr.iterAt J s (enc (pre ++ cur ++ [r])).length = W at hnx hit2 hown2 hbw2
      generalize hP2 : (enc (pre ++ cur ++ [r])).length = P2 at hit2 hmo HP
      have HP2 := Lib.hid hP2
      clear hP2 hit hown hbw
      have HRL := Lib.hid (runeLen_enc r hr)
      cases hbl : blankB r with
      | false =>
        have HB := Lib.hid hbl
        clear hbl
        go_wp2_with (go_at_call 38; refine (isBlank_any _ _).mono ?_; rw [HB.out]; rintro e w' ⟨rfl, rfl⟩)
        go_roundw
        case rel => exact ⟨pre, cur ++ [r], b, done, Lib.hid (by rw [HAB.out]; simp), rfl, hown2, by rw [← List.append_assoc, HP2.out]; exact hit2, hbw2, Lib.hid (by rw [HW.out, words_more cur HB.out])⟩
        case measure =>
          have : W.iterPos J = P2 := by simp [World.iterPos, hit2]
          rw [this]
          exact hmo
      | true =>
        have HB := Lib.hid hbl
        clear hbl
        by_cases hcur : cur = []
        · have hwd : s.extract (enc pre).length (enc (pre ++ cur)).length = ⟨#[]⟩ := bytes_ext (by rw [HX.out, hcur, enc_nil])
          obtain ⟨A, c, rfl⟩ := own_shape hown2
          have HCU := Lib.hid hcur
          clear hcur
          go_wp2_with (go_at_call 38; refine (isBlank_any _ _).mono ?_; rw [HB.out]; rintro e w' ⟨rfl, rfl⟩)
          refine (appendWord_none _ _ _ _).mono ?_
          rintro e w2 ⟨rfl, rfl⟩
          go_wp2_with (go_at_call 40; refine (runeLen_any _ _).mono ?_; rw [HRL.out]; rintro e w' ⟨rfl, rfl⟩)
          go_roundw
          case rel => exact ⟨pre ++ cur ++ [r], [], b, done, Lib.hid (by rw [HAB.out]; simp), by rw [HP2.out, HP.out]; go_num, hown2, by rw [List.append_nil, HP2.out]; exact hit2, hbw2, Lib.hid (by rw [HW.out, words_blank cur HB.out, HCU.out, flush_nil, List.nil_append])⟩
          case measure =>
            have : W.iterPos J = P2 := by simp [World.iterPos, hit2]
            rw [this]
            exact hmo
        · have hcl : 0 < (enc cur).length := by have := (enc_len cur).1; have := List.length_pos_iff.2 hcur; omega
          have HY : Hid (s.extract (enc pre).length (enc (pre ++ cur)).length = ⟨(enc cur).toArray⟩) := Lib.hid (bytes_ext HX.out)
          have hwz : (s.extract (enc pre).length (enc (pre ++ cur)).length).size = (enc cur).length := by rw [← size_list, HX.out]
          have hw0 : 0 < (s.extract (enc pre).length (enc (pre ++ cur)).length).size := by omega
          have hw1 : (s.extract (enc pre).length (enc (pre ++ cur)).length).size ≤ 100000 := by omega
          clear hwz
          go_wp2_with (go_at_call 38; refine (isBlank_any _ _).mono ?_; rw [HB.out]; rintro e w' ⟨rfl, rfl⟩)
          refine (appendWord_some w.heap.size _ _ _ _ _ hown2 hbw2.size hw1 hw0 (by omega)).mono ?_
          rintro e w2 ⟨v', rfl, hown3, hg3⟩
          have hit3 := iter_grown hg3 hit2 hne
          have hbw3 : Below w.heap.size w w2 := hbw2.grown hg3 hbw2.size (fun k hk => (hown2.lt k hk).1)
          go_wp2_with (go_at_call 40; refine (runeLen_any _ _).mono ?_; rw [HRL.out]; rintro e w' ⟨rfl, rfl⟩)
          go_roundw
          case rel => exact ⟨pre ++ cur ++ [r], [], b, done ++ [cur], Lib.hid (by rw [HAB.out]; simp), by rw [HP2.out, HP.out]; go_num, by rw [HY.out] at hown3; rw [strs_append]; simpa [strs] using hown3, by rw [List.append_nil, HP2.out]; exact hit3, hbw3, Lib.hid (by rw [HW.out, words_blank cur HB.out, flush_cons hcur, List.append_assoc])⟩
          case measure =>
            have : w2.iterPos J = P2 := by simp [World.iterPos, hit3]
            rw [this]
            exact hmo
end Go.Proofs.YtdhiipnnmonkoaaDoor
