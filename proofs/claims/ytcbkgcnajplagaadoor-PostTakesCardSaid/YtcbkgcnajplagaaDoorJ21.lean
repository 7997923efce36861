/- PoF, PoTkM, BWrC, BPutA, BRefC, BRefD, BRefE, BRefF in one text. Conditions: as each part says. -/
import Derived.Test.YtcbkgcnajplagaaDoorJ18
import Derived.Test.YtcbkgcnajplagaaDoorJ20
import Derived.Laws.BytesString
import Derived.Laws.Cells
section
set_option linter.unusedVariables false
set_option linter.unusedSimpArgs false
set_option maxRecDepth 100000
namespace Go.Proofs.YtcbkgcnajplagaaDoor.Po
open Go
open Be (T kindsOk kindsOkL deepT deepL wfT wfL tidy tidyL onlyRes takeRes gdT)
def frsM (m : M) : List (List UInt8) := [Be.enc (valM m), m.tx.data.toList]
def txtL (m : M) : List UInt8 := encs (frsM m)
def txtB (m : M) : ByteArray := ⟨(txtL m).toArray⟩
theorem txtL_is (m : M) : txtL m = Go.Proofs.YtcbkgcnajplagaaDoor.enc (Be.enc (valM m)) ++ Go.Proofs.YtcbkgcnajplagaaDoor.enc m.tx.data.toList := by
  unfold txtL frsM
  rw [encs_cons, encs_cons, encs_nil, List.append_nil]
theorem txt_list (m : M) : (txtB m).data.toList = txtL m := rfl
theorem frs_small {m : M} (h : mayM m = true) (hf : FitM m) : ∀ t ∈ frsM m, t.length ≤ 262144 := fun t ht => by
  have h1 := (val_facts h hf).2.2.2.2
  have h2 : m.tx.size ≤ 262144 := (mayM_iff.1 h).2.2.2.2.2.2.2.2.2.2.2.2.2
  simp only [frsM, List.mem_cons, List.not_mem_nil, or_false] at ht
  rcases ht with rfl | rfl
  · omega
  · rw [size_list]; exact h2
theorem txtL_len (m : M) : (txtL m).length = (Be.enc (valM m)).length + m.tx.size + 28 := by
  rw [txtL_is, List.length_append, enc_len, enc_len, size_list]
  omega
theorem txt_size (m : M) : (txtB m).size = (Be.enc (valM m)).length + m.tx.size + 28 := by
  rw [← txtL_len]
  simp [txtB, ByteArray.size]
theorem txt_le {m : M} (h : mayM m = true) (hf : FitM m) : (txtB m).size ≤ 266200 := by
  have h1 := (val_facts h hf).2.2.2.2
  have h2 : m.tx.size ≤ 262144 := (mayM_iff.1 h).2.2.2.2.2.2.2.2.2.2.2.2.2
  rw [txt_size]
  omega
/-- The first frame's text is long. -/
theorem items_ge : ∀ l : List T, kindsOkL l = true → l.length ≤ (Be.encL l).length
  | [], _ => Nat.zero_le _
  | t :: r, h => by
    simp only [kindsOkL, Bool.and_eq_true] at h
    obtain ⟨c, q, he, _⟩ := Be.enc_head t h.1
    have := items_ge r h.2
    simp only [Be.encL, List.length_append, List.length_cons, he]
    omega
theorem val_ge {m : M} (h : mayM m = true) (hf : FitM m) : 17 ≤ (Be.enc (valM m)).length := by
  have h1 := (val_facts h hf).1
  have h2 : kindsOkL (itemsM m) = true := by simpa [valM, kindsOk] using h1
  have := items_ge _ h2
  rw [items_cons] at this
  simp only [List.length_cons, List.length_nil] at this
  simp only [valM, Be.enc_list, List.length_cons, List.length_append, List.length_nil]
  rw [items_cons]
  omega
theorem wh_two (a b : List UInt8) {k : Nat} (hk : k ≤ a.length + b.length + 28) (h : wh [a, b] k = 2) : k = a.length + b.length + 28 := by
  simp only [wh] at h
  split at h
  · split at h
    · omega
    · omega
  · omega
theorem wh_all (a b : List UInt8) : wh [a, b] (a.length + b.length + 28) = 2 := by
  simp only [wh]
  rw [if_pos (by omega), if_pos (by omega)]
theorem wh_le2 (a b : List UInt8) (k : Nat) : wh [a, b] k ≤ 2 := by
  simp only [wh]
  split
  · split <;> omega
  · omega
/-- The message of two frames' texts, if its text is s. -/
def pickM (s : ByteArray) (a b : List UInt8) : Option M := match onlyRes a with
  | .error _ => none
  | .ok t => match ofVals t.l ⟨b.toArray⟩ with
    | none => none
    | some m => if mayM m = true ∧ txtB m = s then some m else none
def pickF (s : ByteArray) : List (List UInt8) × Nat → Option M
  | ([a, b], n) => if n = s.size then pickM s a b else none
  | _ => none
/-- The message of a text. -/
def takeM (s : ByteArray) : Option M := pickF s (alls s.data.toList)
theorem pickF_no {s : ByteArray} {r : List (List UInt8) × Nat} (h : r.1.length ≠ 2 ∨ r.2 ≠ s.size) : pickF s r = none := by
  unfold pickF
  split
  · rename_i a b n
    rcases h with h | h
    · exact absurd rfl h
    · rw [if_neg h]
  · rfl
theorem takeM_txt {m : M} (h : mayM m = true) (hf : FitM m) : takeM (txtB m) = some m := by
  have hs := frs_small h hf
  have h1 := alls_cut (frsM m) (txtL m).length hs
  have h2 : wh (frsM m) (txtL m).length = 2 := by
    rw [txtL_len]
    have := wh_all (Be.enc (valM m)) m.tx.data.toList
    rw [size_list] at this
    exact this
  rw [h2] at h1
  have h3 : (encs (frsM m)).take (txtL m).length = txtL m := List.take_length
  have h4 : (frsM m).take 2 = frsM m := rfl
  rw [h3, h4] at h1
  unfold takeM
  rw [txt_list, h1]
  show (if (encs (frsM m)).length = (txtB m).size then pickM (txtB m) (Be.enc (valM m)) m.tx.data.toList else none) = some m
  rw [if_pos (by rw [txt_size]; exact txtL_len m)]
  unfold pickM
  rw [val_only h hf]
  have h5 : (⟨m.tx.data.toList.toArray⟩ : ByteArray) = m.tx := by simp
  rw [h5]
  simp only
  rw [ofVals_items]
  simp only
  rw [if_pos ⟨h, trivial⟩]
theorem takeM_some {s : ByteArray} {m : M} (h : takeM s = some m) : mayM m = true ∧ txtB m = s := by
  unfold takeM pickF at h
  split at h
  · split at h
    · unfold pickM at h
      split at h
      · cases h
      · split at h
        · cases h
        · split at h
          · rename_i hc
            injection h with h
            subst h
            exact hc
          · cases h
    · cases h
  · cases h
theorem txt_inj {a b : M} (ha : mayM a = true) (fa : FitM a) (hb : mayM b = true) (fb : FitM b) (h : txtB a = txtB b) : a = b := by
  have h1 := takeM_txt ha fa
  have h2 := takeM_txt hb fb
  rw [h, h2] at h1
  injection h1 with h1
  exact h1.symm
/-- A text that lacks bytes at its end is none. -/
theorem take_torn {m : M} (h : mayM m = true) (hf : FitM m) {k : Nat} (hk : k < (txtB m).size) {s : ByteArray} (hs : s.data.toList = (txtL m).take k) : takeM s = none := by
  have h1 := alls_cut (frsM m) k (frs_small h hf)
  unfold takeM
  rw [hs, show txtL m = encs (frsM m) from rfl, h1]
  refine pickF_no (Or.inl ?_)
  have h2 := wh_le2 (Be.enc (valM m)) m.tx.data.toList k
  intro hc
  have h3 : wh (frsM m) k = 2 := by
    have h4 : ((frsM m).take (wh (frsM m) k)).length = 2 := hc
    rw [List.length_take] at h4
    have : (frsM m).length = 2 := rfl
    have h5 : wh (frsM m) k ≤ 2 := h2
    omega
  have h6 := wh_two (Be.enc (valM m)) m.tx.data.toList (k := k) (by rw [txt_size] at hk; rw [size_list]; omega) h3
  rw [txt_size] at hk
  rw [size_list] at h6
  omega
theorem tk_spoilt2 (l m r : List UInt8) (h : l.length ≤ 262144) (hm : m.length = l.length) (hs : ¬ sm m = sm l) : tkL (fr l.length (sm l) (m ++ 10 :: r)) = ([], 0, 41) := by
  have e1 := fr_nL l.length (sm l) (m ++ 10 :: r) (by omega)
  have e2 := fr_cL l.length (sm l) (m ++ 10 :: r) (sm_lt l)
  have e3 : ((fr l.length (sm l) (m ++ 10 :: r)).drop 13).take l.length = m := by rw [fr_drop13, ← hm]; simp
  have hf := fr_len l.length (sm l) (m ++ 10 :: r)
  rw [List.length_append, List.length_cons] at hf
  have e4 : (fr l.length (sm l) (m ++ 10 :: r)).getD (13 + l.length) 0 = 10 := by
    rw [fr_at, ← hm, List.getD_eq_getElem?_getD, List.getElem?_append_right (Nat.le_refl _), Nat.sub_self]
    rfl
  exact tk_sum (by omega) (fr_head _ _ _ h (sm_lt l)) (by rw [e1]; simp only; omega) (by rw [e1]; exact e4) (by rw [e1, e2]; simp only; rw [e3]; exact hs)
/-- A byte of the first frame's text is another one. -/
theorem sm_set {p : List UInt8} {i : Nat} {b : UInt8} (hi : i < p.length) (h3 : 3 ≤ p.length) (hb : sm (p.set i b) = sm p) : p.getD i 0 = b := by
  by_cases hk : i + 2 < p.length
  · obtain ⟨a, x, y, z, q, rfl, ha⟩ : ∃ a x y z q, p = a ++ x :: y :: z :: q ∧ a.length = i := by
      refine ⟨p.take i, p.getD i 0, p.getD (i + 1) 0, p.getD (i + 2) 0, p.drop (i + 3), ?_, by rw [List.length_take]; omega⟩
      rw [← drop_getD (by omega), ← drop_getD (by omega), ← drop_getD (by omega), List.take_append_drop]
    subst ha
    rw [set_mid] at hb
    rw [get_mid]
    exact (sm_three hb).1.symm
  · by_cases hk1 : i + 1 < p.length
    · obtain ⟨a, y, x, z, rfl, ha⟩ : ∃ a y x z, p = a ++ y :: x :: z :: [] ∧ a.length + 1 = i := by
        have e0 : p.drop (i + 2) = [] := by rw [List.drop_eq_nil_iff]; omega
        refine ⟨p.take (i - 1), p.getD (i - 1) 0, p.getD i 0, p.getD (i + 1) 0, ?_, by rw [List.length_take]; omega⟩
        rw [← e0, ← drop_getD (by omega), ← drop_getD (by omega)]
        have := drop_getD (l := p) (k := i - 1) (by omega)
        rw [show i - 1 + 1 = i by omega] at this
        rw [← this, List.take_append_drop]
      subst ha
      have e1 : (a ++ [y, x, z]).set (a.length + 1) b = a ++ [y, b, z] := by simp
      have e2 : (a ++ [y, x, z]).getD (a.length + 1) 0 = x := by simp
      rw [e1] at hb
      rw [e2]
      exact (sm_three hb).2.1.symm
    · obtain ⟨a, y, z, x, rfl, ha⟩ : ∃ a y z x, p = a ++ y :: z :: x :: [] ∧ a.length + 2 = i := by
        have e0 : p.drop (i + 1) = [] := by rw [List.drop_eq_nil_iff]; omega
        refine ⟨p.take (i - 2), p.getD (i - 2) 0, p.getD (i - 1) 0, p.getD i 0, ?_, by rw [List.length_take]; omega⟩
        rw [← e0, ← drop_getD (by omega)]
        have t1 := drop_getD (l := p) (k := i - 2) (by omega)
        have t2 := drop_getD (l := p) (k := i - 1) (by omega)
        rw [show i - 2 + 1 = i - 1 by omega] at t1
        rw [show i - 1 + 1 = i by omega] at t2
        rw [← t2, ← t1, List.take_append_drop]
      subst ha
      have e1 : (a ++ [y, z, x]).set (a.length + 2) b = a ++ [y, z, b] := by simp
      have e2 : (a ++ [y, z, x]).getD (a.length + 2) 0 = x := by simp
      rw [e1] at hb
      rw [e2]
      exact (sm_three hb).2.2.symm
theorem take_spoilt {m : M} (h : mayM m = true) (hf : FitM m) {i : Nat} {b : UInt8} (hi : i < 3) (hb : b ≠ (txtL m).getD (13 + i) 0) {s : ByteArray} (hs : s.data.toList = (txtL m).set (13 + i) b) : takeM s = none := by
  have hge := val_ge h hf
  have hle := frs_small h hf (Be.enc (valM m)) (by simp [frsM])
  unfold takeM
  rw [hs, txtL_is, enc_app]
  rw [txtL_is, enc_app] at hb
  generalize Be.enc (valM m) = l at *
  generalize Go.Proofs.YtcbkgcnajplagaaDoor.enc m.tx.data.toList = r at *
  have e1 : (fr l.length (sm l) (l ++ 10 :: r)).set (13 + i) b = fr l.length (sm l) (l.set i b ++ 10 :: r) := by
    have t2 : fr l.length (sm l) (l ++ 10 :: r) = fr l.length (sm l) [] ++ (l ++ 10 :: r) := by unfold fr; simp
    have t3 : fr l.length (sm l) (l.set i b ++ 10 :: r) = fr l.length (sm l) [] ++ (l.set i b ++ 10 :: r) := by unfold fr; simp
    have t4 : (fr l.length (sm l) []).length = 13 := by rw [fr_len]; rfl
    rw [t2, t3, List.set_append_right _ _ (by omega), t4, Nat.add_sub_cancel_left, List.set_append_left _ _ (by omega)]
  have e2 : (fr l.length (sm l) (l ++ 10 :: r)).getD (13 + i) 0 = l.getD i 0 := by
    rw [fr_at, List.getD_eq_getElem?_getD, List.getElem?_append_left (by omega), ← List.getD_eq_getElem?_getD]
  rw [e2] at hb
  rw [e1]
  have hsm : ¬ sm (l.set i b) = sm l := fun hc => hb (sm_set (by omega) (by omega) hc).symm
  have e3 := tk_spoilt2 l (l.set i b) r hle (by simp) hsm
  refine pickF_no (Or.inl ?_)
  unfold alls
  rw [allF_no (by rw [List.drop_zero, e3]; decide)]
  decide
end Go.Proofs.YtcbkgcnajplagaaDoor.Po
end
section
set_option linter.unusedVariables false
set_option linter.unusedSimpArgs false
set_option maxRecDepth 100000
namespace Go.Proofs.YtcbkgcnajplagaaDoor.Po
open Go
open Be (T kindsOk kindsOkL deepT deepL wfT wfL tidy tidyL onlyRes takeRes gdT)
theorem wf_n {t : T} (h : wfT t = true) : S64 t.n ∧ wfL t.l = true := by
  obtain ⟨k, n, s, l⟩ := t
  simp only [wfT, Bool.and_eq_true, decide_eq_true_eq] at h
  exact ⟨⟨by have := h; simp only [Be.T.n]; omega, by have := h; simp only [Be.T.n]; omega⟩, h.2⟩
theorem wfL_mem : ∀ {l : List T} {u : T}, wfL l = true → u ∈ l → wfT u = true
  | t :: r, u, h, hu => by
    simp only [wfL, Bool.and_eq_true] at h
    rcases List.mem_cons.1 hu with rfl | hu
    · exact h.1
    · exact wfL_mem h.2 hu
theorem hitsOf_mem : ∀ {l : List Int} {x : Int × Int}, x ∈ hitsOf l → x.1 ∈ l
  | [], x, h => by simp [hitsOf] at h
  | [a], x, h => by simp [hitsOf] at h
  | a :: b :: r, x, h => by
    simp only [hitsOf, List.mem_cons] at h
    rcases h with rfl | h
    · exact List.mem_cons_self ..
    · exact List.mem_cons_of_mem _ (List.mem_cons_of_mem _ (hitsOf_mem h))
theorem only_wf {bs : List UInt8} {t : T} (h : onlyRes bs = .ok t) : wfT t = true := by
  have hlen := only_len h
  unfold onlyRes at h
  cases htk : takeRes bs with
  | error x => rw [htk] at h; cases h
  | ok p =>
    obtain ⟨t', n⟩ := p
    rw [htk] at h
    simp only at h
    split at h
    · cases h
    · obtain rfl : t' = t := by injection h
      obtain ⟨h1, h2⟩ := Be.takeRes_ok htk
      exact (Be.rd_inv (by omega) h1).wf
theorem ofVals_fit {bs : List UInt8} {t : T} {tx : ByteArray} {m : M} (h : onlyRes bs = .ok t) (ho : ofVals t.l tx = some m) : FitM m := by
  obtain ⟨_, hwl⟩ := wf_n (only_wf h)
  unfold ofVals at ho
  split at ho
  · rename_i a0 a1 a2 a3 a4 a5 a6 a7 a8 a9 a10 a11 a12 a13 a14 he
    injection ho with ho
    subst ho
    rw [he] at hwl
    refine ⟨(wf_n (wfL_mem hwl (by simp : a9 ∈ _))).1, fun x hx => ?_⟩
    have h14 := (wf_n (wfL_mem hwl (by simp : a14 ∈ _))).2
    obtain ⟨u, hu, hux⟩ := List.mem_map.1 (hitsOf_mem hx)
    rw [← hux]
    exact (wf_n (wfL_mem h14 hu)).1
  · cases ho
theorem ofVals_tx (l : List T) (tx : ByteArray) : ofVals l tx = (ofVals l ⟨#[]⟩).map fun m => { m with tx := tx } := by
  unfold ofVals
  split <;> rfl
/-- The message that the program reads out of a text. -/
def readP (s : List UInt8) : Option M :=
  if (tkL s).2.2 = 0 ∧ (tkL (s.drop (tkL s).2.1)).2.2 = 0 then
    match onlyRes (tkL s).1 with
    | .error _ => none
    | .ok t => ofVals t.l ⟨(tkL (s.drop (tkL s).2.1)).1.toArray⟩
  else none
def takeP (s : ByteArray) : Option M := match readP s.data.toList with
  | none => none
  | some m => if mayM m = true ∧ txtB m = s then some m else none
theorem readP_fit {s : List UInt8} {m : M} (h : readP s = some m) : FitM m := by
  unfold readP at h
  split at h
  · split at h
    · cases h
    · rename_i t ho
      exact ofVals_fit ho h
  · cases h
theorem readP_txt {m : M} (h : mayM m = true) (hf : FitM m) : readP (txtL m) = some m := by
  have hs := frs_small h hf
  have h1 := tk_enc (Be.enc (valM m)) (Go.Proofs.YtcbkgcnajplagaaDoor.enc m.tx.data.toList) (hs _ (by simp [frsM]))
  have h2 := tk_enc m.tx.data.toList [] (hs _ (by simp [frsM]))
  rw [List.append_nil] at h2
  have h3 : (Go.Proofs.YtcbkgcnajplagaaDoor.enc (Be.enc (valM m)) ++ Go.Proofs.YtcbkgcnajplagaaDoor.enc m.tx.data.toList).drop ((Be.enc (valM m)).length + 14) = Go.Proofs.YtcbkgcnajplagaaDoor.enc m.tx.data.toList := by
    rw [← enc_len]; simp
  unfold readP
  rw [txtL_is, h1]
  simp only
  rw [h3, h2, if_pos (by simp), val_only h hf]
  have h5 : (⟨m.tx.data.toList.toArray⟩ : ByteArray) = m.tx := by simp
  simp only
  rw [h5, ofVals_items]
theorem takeM_fit {s : ByteArray} {m : M} (h : takeM s = some m) : FitM m := by
  unfold takeM pickF at h
  split at h
  · split at h
    · unfold pickM at h
      split at h
      · cases h
      · rename_i ho
        split at h
        · cases h
        · rename_i hv
          split at h
          · injection h with h
            subst h
            exact ofVals_fit ho hv
          · cases h
    · cases h
  · cases h
theorem takeP_eq (s : ByteArray) : takeP s = takeM s := by
  cases hp : takeP s with
  | some m =>
    unfold takeP at hp
    split at hp
    · cases hp
    · rename_i m' hr
      split at hp
      · rename_i hc
        injection hp with hp
        subst hp
        have := takeM_txt hc.1 (readP_fit hr)
        rw [hc.2] at this
        exact this.symm
      · cases hp
  | none =>
    cases hm : takeM s with
    | none => rfl
    | some m =>
      obtain ⟨h1, h2⟩ := takeM_some hm
      have h3 := readP_txt h1 (takeM_fit hm)
      unfold takeP at hp
      rw [← h2, txt_list, h3] at hp
      simp only at hp
      rw [if_pos ⟨h1, trivial⟩] at hp
      cases hp
end Go.Proofs.YtcbkgcnajplagaaDoor.Po
end
section
set_option linter.unusedVariables false
set_option linter.unusedSimpArgs false
namespace Go.Proofs.YtcbkgcnajplagaaDoor.Be
open Go Go.RowKit

theorem WVPost.far {Wb B : Nat} {g : Bool} {bs : List UInt8} {w w1 w' : World} {e : Ending} (h : WVPost Wb B g bs w1 e w') (hb : Below Wb w w1) : WVPost Wb B g bs w e w' := ⟨h.1, h.2.1, hb.trans h.2.2⟩
set_option maxRecDepth 100000 in
set_option maxHeartbeats 8000000 in
theorem wvalue_of (Wb B : Nat) (N : Nat) : ∀ (t : T) (v : Value) (w : World) (u : Value) (bs : List UInt8) (d : Nat) (D : Int), SizeOf.sizeOf t < N → RdA (fun b => b < Wb) w t v → wfT t = true → WrAt w Wb B u bs → Tabs w Wb → bs.length ≤ 65537 + d → D = (d : Int) → d ≤ 8 →
      Calls Tryd.prog 35 #[.pointer (some ⟨Wb, 0, none⟩), v, .int .i64 D] w (WVPost Wb B (gdT t d bs) (bs ++ enc t) w) := by
  induction N with
  | zero => intro t v w u bs d D h; omega
  | succ N ih =>
    intro t v w u bs d D hN hRA hwf h hT hlen hD hd
    obtain ⟨A, c, xs, rfl, h2, h3, h4, h5, h6⟩ := hRA
    obtain ⟨k, n, s, l⟩ := t
    simp only [T.k, T.n, T.s, T.l] at *
    unfold maxLen at h2 h4
    simp only [wfT, Bool.and_eq_true, decide_eq_true_eq] at hwf
    obtain ⟨⟨⟨hn0, hn1⟩, hk0, hk1⟩, hwfl⟩ := hwf
    have hlt := h.lt
    have hle := h.le
    have hb0 : Below w.heap.size w (w.alloc (.cells #[.int .i64 k, .int .i64 n, .string s, .slice A l.length c] 47)) := (Below.refl _ _).alloc (Nat.le_refl _) _
    have hb0' : Below Wb w (w.alloc (.cells #[.int .i64 k, .int .i64 n, .string s, .slice A l.length c] 47)) := hb0.mono (by omega)
    have hw0 := h.below hb0
    have hT0 := hT.on hb0'
    generalize hgd : gdT (.mk k n s l) d bs = gd
    generalize hbf : bs ++ enc (.mk k n s l) = bf
    have HGD := Lib.hid hgd
    have HBF := Lib.hid hbf
    have HDD := Lib.hid hD
    have HWL := Lib.hid hwfl
    clear hgd hbf hD hwfl hk0 hk1 hb0
    by_cases hk1' : k = 1
    · subst hk1'
      have HE : Hid (bs ++ 105 :: (Lib.itoa n ++ [101]) = bf) := Lib.hid (by rw [← HBF.out, enc_num])
      have HG : Hid (gd = decide (bf.length ≤ 65536)) := Lib.hid (by
        rw [← HGD.out, ← HBF.out]
        simp [gdT, kindsOk, deepT, decide_eq_true hd])
      go_enter Tryd.func35, Tryd.ntmps35
      go_wp2_with fail
      refine (wnumber_any Wb B u bs n hn0 hn1 (by omega) _ hw0 hT0).mono ?_
      rw [HE.out]
      rintro e w1 ⟨rfl, ⟨u1, hw1⟩, hb1⟩
      go_wp2_with fail
      refine (fits_any Wb B u1 bf _ hw1).mono ?_
      rintro e w2 ⟨rfl, rfl⟩
      go_wp2_with fail
      go_ret
      exact ⟨ret_bool HG.out.symm, fun _ => ⟨_, hw1⟩, hb0'.trans hb1⟩
    · by_cases hk2 : k = 2
      · subst hk2
        have HG : Hid (gd = decide ((bs ++ (Lib.itoa s.size ++ 58 :: s.data.toList)).length ≤ 65536)) := Lib.hid (by
          rw [← HGD.out, ← enc_text n s l]
          simp [gdT, kindsOk, deepT, decide_eq_true hd])
        have HE : Hid (bs ++ (Lib.itoa s.size ++ 58 :: s.data.toList) = bf) := Lib.hid (by rw [← HBF.out, enc_text])
        go_enter Tryd.func35, Tryd.ntmps35
        go_wp2_with fail
        refine (wtext_any Wb B u bs s (by omega) (by omega) _ hw0 hT0).mono ?_
        rw [← HG.out, HE.out]
        rintro e w1 hp
        obtain ⟨rfl, hp2⟩ := hp.far hb0'
        have HP := Lib.hid hp2
        clear hp hp2
        go_wp2_with fail
        go_ret
        exact ⟨rfl, HP.out⟩
      · by_cases hk3 : k = 3
        · subst hk3
          go_enter Tryd.func35, Tryd.ntmps35
          go_wp2_with fail
          refine (wlist_of N Wb B ih n s l A c xs _ u bs d D (fun t ht => by have := sz_mem (k := 3) (n := n) (s := s) ht; omega) (h5.keep (Keeps.of_below hb0' (fun b hb _ => hb))) (RdL.keep (Keeps.of_below hb0' (fun b hb _ => hb)) _ _ h6) (by omega) HWL.out hw0 hT0 hlen HDD.out hd).mono ?_
          rw [HGD.out, HBF.out]
          rintro e w1 hp
          obtain ⟨rfl, hp2⟩ := hp.far hb0'
          have HP := Lib.hid hp2
          clear hp hp2
          go_wp2_with fail
          go_ret
          exact ⟨rfl, HP.out⟩
        · have e1 : (k == 1) = false := by simpa using hk1'
          have e2 : (k == 2) = false := by simpa using hk2
          have e3 : (k == 3) = false := by simpa using hk3
          have HG : Hid (gd = false) := Lib.hid (by rw [← HGD.out]; simp [gdT, kindsOk, hk1', hk2, hk3])
          clear hk1' hk2 hk3
          go_enter Tryd.func35, Tryd.ntmps35
          go_wp2_with fail
          go_ret
          refine ⟨ret_bool HG.out.symm, fun h => ?_, hb0'⟩
          rw [HG.out] at h
          cases h
end Go.Proofs.YtcbkgcnajplagaaDoor.Be
end
section
set_option linter.unusedVariables false
set_option linter.unusedSimpArgs false
namespace Go.Proofs.YtcbkgcnajplagaaDoor.Be
open Go Go.RowKit

theorem foldl_push : ∀ (l : List UInt8) (r : ByteArray), ((l.map fun b => (b.toNat : Int)).foldl (fun r n => r.push (UInt8.ofNat n.toNat)) r) = ⟨r.data ++ l.toArray⟩
  | [], r => by simp
  | c :: cs, r => by
    rw [List.map_cons, List.foldl_cons, foldl_push cs]
    simp [ByteArray.push]
theorem conv_row {w : World} {B : Nat} {v : Value} {bs : List UInt8} (hown : w.ownsRow B 5 1 v bs.length (Lib.byteCells bs)) (hne : 0 < bs.length) : ∀ src dst, Tryd.prog.underlying src = some (.slice 5) → Tryd.prog.underlying dst = some .string → (convert src dst v).run Tryd.prog w = .ok (.string ⟨bs.toArray⟩) w := by
  intro src dst hs hd
  obtain ⟨g, cap, rfl, _, _⟩ := hown.form hne
  rw [run_convert_bytes_string (P := Tryd.prog) w src dst 5 _ _ _ hs Tryd.underlying5 hd]
  have hc := hown.cells (g := g) rfl
  have hmap : Lib.byteCells bs = (bs.map fun b => (b.toNat : Int)).map (Value.int .u8) := by simp [Lib.byteCells]
  have hl := run_loadCells_list (P := Tryd.prog) (w := w) ⟨g, 0, none⟩ (Lib.byteCells bs) hc
  rw [Lib.byteCells_length] at hl
  rw [run_bytesToString (P := Tryd.prog) w ⟨g, 0, none⟩ bs.length cap (bs.map fun b => (b.toNat : Int)) (by rw [hl, hmap])]
  rw [foldl_push, show ByteArray.empty.data = #[] from rfl, Array.empty_append]
theorem enc_pos {t : T} (h : kindsOk t = true) : 0 < (enc t).length := by
  obtain ⟨c, r, e, _⟩ := enc_head t h
  rw [e]
  simp
theorem put_start (w : World) (c0 c1 c2 c3 : Value) : WrAt ((w.alloc (.cells #[c0, c1, c2, c3] 47)).alloc (.cells #[.slice none 0 0] 74)) (w.heap.size + 1) (w.heap.size + 2) (.slice none 0 0) [] ∧ Below w.heap.size w ((w.alloc (.cells #[c0, c1, c2, c3] 47)).alloc (.cells #[.slice none 0 0] 74)) ∧
    ((w.alloc (.cells #[c0, c1, c2, c3] 47)).alloc (.cells #[.slice none 0 0] 74)).heap[w.heap.size]? = some (.cells #[c0, c1, c2, c3] 47 (0, 0)) := by
  refine ⟨⟨?_, World.ownsRow_nil .., by omega, by simp⟩, ((Below.refl _ _).alloc (Nat.le_refl _) _).alloc (by simp) _, ?_⟩
  · have := heap_alloc_new (w.alloc (.cells #[c0, c1, c2, c3] 47)) (.cells #[.slice none 0 0] 74)
    simpa using this
  · rw [Below.heap_alloc _ _ _ (by simp)]
    exact heap_alloc_new w _
set_option maxRecDepth 100000 in
set_option maxHeartbeats 8000000 in
theorem put_ok (t : T) (v : Value) (w : World) (hRA : RdA (fun b => b < w.heap.size) w t v) (hwf : wfT t = true) (hg : gdT t 0 [] = true) (hT : Tabs w w.heap.size) : Calls Tryd.prog 17 #[v] w fun e w' => e = .returned (.tuple #[.string ⟨(enc t).toArray⟩, .int .i64 0]) ∧ Below w.heap.size w w' := by
  have hpos := enc_pos (gdT_iff.1 hg).1
  have hk := hRA
  obtain ⟨A, c, rfl, _⟩ := hRA.rd
  obtain ⟨hw0, hb0, hblk⟩ := put_start w (.int .i64 t.k) (.int .i64 t.n) (.string t.s) (.slice A t.l.length c)
  have hT0 := (hT.on hb0).up (B := w.heap.size + 1) (by omega)
  have hRA0 := (hk.keep (Keeps.of_below hb0 (fun b hb _ => hb))).mono (ok' := fun b => b < w.heap.size + 1) (fun b hb _ => by omega)
  have hcall := wvalue_of (w.heap.size + 1) (w.heap.size + 2) (SizeOf.sizeOf t + 1) t _ _ _ [] 0 0 (by omega) hRA0 hwf hw0 hT0 (by simp) rfl (by omega)
  rw [hg, List.nil_append] at hcall
  have HC := Lib.hid hcall
  clear hcall hRA0 hT0 hk hg hwf
  generalize hbf : enc t = bf at *
  go_enter Tryd.func17, Tryd.ntmps17
  go_wp2_with fail
  generalize (w.alloc (.cells #[.int .i64 t.k, .int .i64 t.n, .string t.s, .slice A t.l.length c] 47)).alloc (.cells #[.slice none 0 0] 74) = w0 at *
  refine HC.out.mono ?_
  rintro e w1 ⟨rfl, hw1, hb1⟩
  obtain ⟨u, hw1'⟩ := hw1 rfl
  obtain ⟨k0, k1, k2⟩ := hw1'.cell
  have hcv := conv_row hw1'.own hpos 40 9 Tryd.underlying40 Tryd.underlying9
  clear hw1
  go_wp2_with fail
  go_ret2
  exact ⟨rfl, hb0.trans (hb1.mono (by omega))⟩
end Go.Proofs.YtcbkgcnajplagaaDoor.Be
end
section
set_option linter.unusedVariables false
set_option linter.unusedSimpArgs false
namespace Go.Proofs.YtcbkgcnajplagaaDoor.Be
open Go Go.RowKit

theorem cleanL_get : ∀ {l : List T} {k : Nat}, cleanL l = true → (hk : k < l.length) → cleanT l[k] = true
  | t :: ts, 0, h, _ => by simp only [cleanL, Bool.and_eq_true] at h; exact h.1
  | t :: ts, k + 1, h, hk => by
    simp only [cleanL, Bool.and_eq_true] at h
    exact cleanL_get h.2 (by simp at hk; omega : k < ts.length)
theorem kindsOkL_get : ∀ {l : List T} {k : Nat}, kindsOkL l = true → (hk : k < l.length) → kindsOk l[k] = true
  | t :: ts, 0, h, _ => by simp only [kindsOkL, Bool.and_eq_true] at h; exact h.1
  | t :: ts, k + 1, h, hk => by
    simp only [kindsOkL, Bool.and_eq_true] at h
    exact kindsOkL_get h.2 (by simp at hk; omega : k < ts.length)
theorem empty_of_size {s : ByteArray} (h : s.size = 0) : s = ⟨#[]⟩ := by
  apply ByteArray.ext
  exact Array.eq_empty_of_size_eq_zero h

end Go.Proofs.YtcbkgcnajplagaaDoor.Be
end
section
set_option linter.unusedVariables false
set_option linter.unusedSimpArgs false
namespace Go.Proofs.YtcbkgcnajplagaaDoor.Be
open Go Go.RowKit

def LenPost (r : Except Int (Nat × Nat)) (w : World) (e : Ending) (w' : World) : Prop :=
  match r with
  | .error x => e = .returned (.tuple #[.int .i64 0, .int .i64 0, .int .i64 x]) ∧ w = w'
  | .ok (n, k) => e = .returned (.tuple #[.int .i64 n, .int .i64 k, .int .i64 0]) ∧ w = w'
theorem LenPost.err {r : Except Int (Nat × Nat)} {x : Int} {w w' : World} {e : Ending} (h : r = .error x) (he : e = .returned (.tuple #[.int .i64 0, .int .i64 0, .int .i64 x])) (hw : w = w') : LenPost r w e w' := by
  subst h
  exact ⟨he, hw⟩
theorem LenPost.fine {r : Except Int (Nat × Nat)} {n k : Nat} {w w' : World} {e : Ending} (h : r = .ok (n, k)) (he : e = .returned (.tuple #[.int .i64 n, .int .i64 k, .int .i64 0])) (hw : w = w') : LenPost r w e w' := by
  subst h
  exact ⟨he, hw⟩
theorem ret_t3 {a b c d : Int} {v : Value} (h : a = b) (k : c = d) : Ending.returned (.tuple #[.int .i64 a, .int .i64 c, v]) = .returned (.tuple #[.int .i64 b, .int .i64 d, v]) := by rw [h, k]
theorem u8_lit {s : ByteArray} {g : Nat} (h : g < s.size) (c : UInt8) (z : Int) (hz : z = (c.toNat : Int)) : ((s[g].toNat : Int) == z) = decide (s[g] = c) := by
  subst hz
  rw [u8_eq_cast, Bool.eq_iff_iff]
  simp

set_option maxRecDepth 100000 in
set_option maxHeartbeats 8000000 in
theorem length_any (s : ByteArray) (hs : s.size ≤ 1000000000) (w : World) : Calls Tryd.prog 78 #[.string s] w (LenPost (dg 65536 58 23 true 0 s.data.toList) w) := by
  generalize hr : dg 65536 58 23 true 0 s.data.toList = res
  have HR := Lib.hid hr
  clear hr
  go_enter Tryd.func78, Tryd.ntmps78
  go_wp2
  go_loop [5, 6] (fun n i => ∃ (g m : Nat) (a : Int), i = .int .i64 (g : Int) ∧ n = .int .i64 a ∧ 0 ≤ a ∧ a ≤ 65536 ∧ Hid (a = (m : Int)) ∧ g ≤ s.size ∧ Hid (0 < g → ((∃ h : 0 < s.size, s[0] = 48) ↔ m = 0)) ∧ (g = 0 → a = 0) ∧ Hid (res = more g (dg 65536 58 23 (decide (g = 0)) m (s.data.toList.drop g)))) (fun _ i => s.size - (intOf i).toNat)
  case atStart => exact ⟨0, 0, 0, rfl, rfl, by omega, by omega, Lib.hid rfl, Nat.zero_le _, Lib.hid (fun h => absurd h (by omega)), fun _ => rfl, Lib.hid (by rw [more_zero, List.drop_zero, decide_eq_true rfl]; exact HR.out.symm)⟩
  case round =>
    obtain ⟨g, m, a, rfl, rfl, ha0, ha1, HA, hg, HZ, hj0, HD⟩ := hrel
    by_cases hlt : g < s.size
    · have hcons := Lib.hid (drop_cons s g hlt)
      have hpz : (g : Int) < (s.size : Int) := by omega
      have h0z : 0 < s.size := by omega
      by_cases hxs : s[g] = 58
      · have heq : ((s[g].toNat : Int) == 58) = true := by rw [u8_lit hlt 58 58 rfl]; simpa using hxs
        by_cases hj : 0 < g
        · have HF : Hid (res = .ok (m, g + 1)) := Lib.hid (by
            rw [HD.out, hcons.out, hxs, decide_eq_false (by omega), dg_stop]
            simp only [more]
            congr 2
            omega)
          clear hxs
          go_wp2
          go_ret3
          exact LenPost.fine HF.out (ret_t3 HA.out (by omega)) rfl
        · have hgp : g = 0 := by omega
          subst hgp
          have HF : Hid (res = .error 20) := Lib.hid (by
            rw [HD.out, hcons.out, hxs, decide_eq_true rfl, dg_bad _ _ _ _ _ _ _ (.inr rfl) (.inl nd58)]
            rfl)
          have hgt : (57 : Int) < (s[0].toNat : Int) := by rw [hxs]; decide
          clear hxs
          go_wp2
          go_ret3
          exact LenPost.err HF.out rfl rfl
      · have heq : ((s[g].toNat : Int) == 58) = false := by rw [u8_lit hlt 58 58 rfl]; simpa using hxs
        by_cases hdig : isDig s[g] = true
        · have hd1 := isDig_iff.1 hdig
          have hd2 : (48 : Int) ≤ (s[g].toNat : Int) := by omega
          have hd3 : (s[g].toNat : Int) ≤ 57 := by omega
          by_cases hj : 0 < g
          · have hjz : (0 : Int) < (g : Int) := by omega
            by_cases hm0 : m = 0
            · have HF : Hid (res = .error 20) := Lib.hid (by
                rw [HD.out, hcons.out, decide_eq_false (by omega), dg_bad _ _ _ _ _ _ _ (.inl hxs) (.inr ⟨rfl, hm0⟩)]
                rfl)
              have h48 : s[0] = 48 := ((HZ.out hj).2 hm0).2
              have h48b : ((s[0].toNat : Int) == 48) = true := by rw [u8_lit h0z 48 48 rfl]; simpa using h48
              have HM := Lib.hid hm0
              clear hxs hm0 h48 hdig hd1
              go_wp2
              go_ret3
              exact LenPost.err HF.out rfl rfl
            · have h48 : ¬ s[0] = 48 := fun e => hm0 ((HZ.out hj).1 ⟨h0z, e⟩)
              have h48b : ((s[0].toNat : Int) == 48) = false := by rw [u8_lit h0z 48 48 rfl]; simpa using h48
              have h3 : decide (g = 0) = true ∨ m ≠ 0 := .inr hm0
              have HZN : Hid (0 < g + 1 → ((∃ h : 0 < s.size, s[0] = 48) ↔ 10 * m + (s[g].toNat - 48) = 0)) := Lib.hid (fun _ => ⟨fun ⟨_, e⟩ => absurd e h48, fun e => absurd e (by omega)⟩)
              have HX := Lib.hid hxs
              have HDG := Lib.hid hdig
              clear hxs hdig h48 hm0
              by_cases hov : 65536 < 10 * a + ((s[g].toNat : Int) - 48)
              · have HF : Hid (res = .error 23) := Lib.hid (by
                  have e1 := HA.out
                  rw [HD.out, hcons.out, dg_over _ _ _ _ _ _ _ (.inl HX.out) HDG.out h3 (by omega)]
                  rfl)
                clear h3 hd1 hj0
                go_wp2
                go_ret3
                exact LenPost.err HF.out rfl rfl
              · have HF : Hid (res = more (g + 1) (dg 65536 58 23 (decide (g + 1 = 0)) (10 * m + (s[g].toNat - 48)) (s.data.toList.drop (g + 1)))) := Lib.hid (by
                  have e1 := HA.out
                  rw [HD.out, hcons.out, dg_on _ _ _ _ _ _ _ (.inl HX.out) HDG.out h3 (by omega), more_more, decide_eq_false (by omega : ¬ g + 1 = 0), Nat.add_comm 1 g])
                have HAA : Hid (10 * a + ((s[g].toNat : Int) - 48) = ((10 * m + (s[g].toNat - 48) : Nat) : Int)) := Lib.hid (by
                  have e1 := HA.out
                  omega)
                clear h3 hd1 hj0
                go_wp2
                go_round
                case rel => exact ⟨g + 1, _, _, by go_num, rfl, by omega, by omega, HAA, by omega, HZN, by omega, HF⟩
                case measure => simp [intOf]; omega
          · have hgp : g = 0 := by omega
            subst hgp
            have ha00 : a = 0 := hj0 rfl
            have h3 : decide (0 = 0) = true ∨ m ≠ 0 := .inl (decide_eq_true rfl)
            have HZN : Hid (0 < 0 + 1 → ((∃ h : 0 < s.size, s[0] = 48) ↔ 10 * m + (s[0].toNat - 48) = 0)) := Lib.hid (fun _ => by
              have hm0 : m = 0 := by have := HA.out; omega
              subst hm0
              constructor
              · rintro ⟨_, e⟩; rw [e]; rfl
              · intro e
                refine ⟨h0z, ?_⟩
                have : s[0].toNat = 48 := by omega
                exact UInt8.toNat_inj.1 (by rw [this]; rfl))
            have HX := Lib.hid hxs
            have HDG := Lib.hid hdig
            clear hxs hdig
            have hov : ¬ 65536 < 10 * a + ((s[0].toNat : Int) - 48) := by omega
            have HF : Hid (res = more (0 + 1) (dg 65536 58 23 (decide (0 + 1 = 0)) (10 * m + (s[0].toNat - 48)) (s.data.toList.drop (0 + 1)))) := Lib.hid (by
              have e1 := HA.out
              rw [HD.out, hcons.out, dg_on _ _ _ _ _ _ _ (.inl HX.out) HDG.out h3 (by omega), more_more, decide_eq_false (by omega : ¬ 0 + 1 = 0)])
            have HAA : Hid (10 * a + ((s[0].toNat : Int) - 48) = ((10 * m + (s[0].toNat - 48) : Nat) : Int)) := Lib.hid (by
              have e1 := HA.out
              omega)
            clear h3 hd1 hj0
            subst ha00
            go_wp2
            go_round
            case rel => exact ⟨1, _, _, rfl, rfl, by omega, by omega, Lib.hid (by have := HAA.out; omega), by omega, HZN, by omega, HF⟩
            case measure => simp [intOf]; omega
        · have hdf : isDig s[g] = false := by simpa using hdig
          have hnd : (s[g].toNat : Int) < 48 ∨ (57 : Int) < (s[g].toNat : Int) := by
            by_cases h1 : (s[g].toNat : Int) < 48
            · exact .inl h1
            · refine .inr ?_
              by_cases h2 : (57 : Int) < (s[g].toNat : Int)
              · exact h2
              · exact absurd (isDig_iff.2 (by omega)) hdig
          have HF : Hid (res = .error 20) := Lib.hid (by
            rw [HD.out, hcons.out, dg_bad _ _ _ _ _ _ _ (.inl hxs) (.inl hdf)]
            rfl)
          have HX := Lib.hid hxs
          have HDG := Lib.hid hdf
          clear hxs hdf hdig hj0
          rcases hnd with hnd | hnd
          all_goals
            go_wp2
            go_ret3
            exact LenPost.err HF.out rfl rfl
    · have HF : Hid (res = .error 21) := Lib.hid (by
        rw [HD.out, drop_nil s g hlt, dg_nil]
        rfl)
      have hpz : ¬ (g : Int) < (s.size : Int) := by omega
      go_wp2
      go_ret3
      exact LenPost.err HF.out rfl rfl
end Go.Proofs.YtcbkgcnajplagaaDoor.Be
end
section
set_option linter.unusedVariables false
set_option linter.unusedSimpArgs false
namespace Go.Proofs.YtcbkgcnajplagaaDoor.Be
open Go Go.RowKit

def NumPost (r : Except Int (T × Nat)) (w : World) (e : Ending) (w' : World) : Prop :=
  match r with
  | .error x => e = .returned (.tuple #[.int .i64 0, .int .i64 0, .int .i64 x]) ∧ w = w'
  | .ok (t, c) => e = .returned (.tuple #[.int .i64 t.n, .int .i64 ((c : Int) - 1), .int .i64 0]) ∧ w = w'
theorem NumPost.err {r : Except Int (T × Nat)} {x : Int} {w w' : World} {e : Ending} (h : r = .error x) (he : e = .returned (.tuple #[.int .i64 0, .int .i64 0, .int .i64 x])) (hw : w = w') : NumPost r w e w' := by
  subst h
  exact ⟨he, hw⟩
theorem NumPost.fine {r : Except Int (T × Nat)} {t : T} {c : Nat} {w w' : World} {e : Ending} (h : r = .ok (t, c)) (he : e = .returned (.tuple #[.int .i64 t.n, .int .i64 ((c : Int) - 1), .int .i64 0])) (hw : w = w') : NumPost r w e w' := by
  subst h
  exact ⟨he, hw⟩
theorem rdNum_of_err {r : Except Int (Nat × Nat)} {res : Except Int (T × Nat)} {f : Nat → Int} {j : Nat} {x : Int} (hr : res = (match r with | .error e => .error e | .ok (m, n) => .ok (.mk 1 (f m) .empty [], n + j))) (h : r = .error x) : res = .error x := by
  subst h
  exact hr
theorem rdNum_of_ok {r : Except Int (Nat × Nat)} {res : Except Int (T × Nat)} {f : Nat → Int} {j m n : Nat} (hr : res = (match r with | .error e => .error e | .ok (m, n) => .ok (.mk 1 (f m) .empty [], n + j))) (h : r = .ok (m, n)) : res = .ok (.mk 1 (f m) .empty [], n + j) := by
  subst h
  exact hr
set_option maxRecDepth 100000 in
set_option maxHeartbeats 16000000 in
theorem rnumber_pos (s : ByteArray) (h45 : s.data.toList.head? ≠ some 45) (hs : s.size ≤ 1000000000) (w : World) : Calls Tryd.prog 77 #[.string s] w (NumPost (rdNum s.data.toList) w) := by
  have HRES : Hid (rdNum s.data.toList = (match dg 9223372036854775807 101 20 true 0 s.data.toList with | .error e => .error e | .ok (m, n) => .ok (.mk 1 m .empty [], n + 1))) := Lib.hid (rdNum_plus _ h45)
  have hfirst : ∀ h : 0 < s.size, ((s[0].toNat : Int) == 45) = false := fun h => by
    rw [u8_lit h 45 45 rfl]
    have hd := drop_cons s 0 h
    rw [List.drop_zero] at hd
    rw [hd] at h45
    simpa using h45
  clear h45
  generalize hr : rdNum s.data.toList = res at *
  clear hr
  generalize hq : dg 9223372036854775807 101 20 true 0 s.data.toList = R0 at *
  have HQ := Lib.hid hq
  clear hq
  by_cases hsz : 0 < s.size
  case' neg =>
    have hpe : ((0 : Int) == (s.size : Int)) = true := by rw [beq_iff_eq]; omega
    have hszz : ¬ (0 : Int) < (s.size : Int) := by omega
    have HF : Hid (res = .error 21) := Lib.hid (rdNum_of_err HRES.out (by
      have hd := drop_nil s 0 hsz
      rw [List.drop_zero] at hd
      rw [← HQ.out, hd, dg_nil]))
    clear hfirst
    go_enter Tryd.func77, Tryd.ntmps77
    go_wp2
    refine wp_loop_rounds 1 ?_
    rw [rounds_succ]
    go_wp2
    go_ret3
    exact NumPost.err HF.out rfl rfl
  have hszz : (0 : Int) < (s.size : Int) := by omega
  have hf1 := hfirst hsz
  clear hfirst
  go_enter Tryd.func77, Tryd.ntmps77
  go_wp2
  go_loop [5, 8] (fun i n => ∃ (g m : Nat) (a : Int), i = .int .i64 (g : Int) ∧ n = .int .i64 a ∧ 0 ≤ a ∧ a ≤ 9223372036854775807 ∧ Hid (a = (m : Int)) ∧ 0 ≤ g ∧ g ≤ s.size ∧ Hid (0 < g → ((∃ h : 0 < s.size, s[0] = 48) ↔ m = 0)) ∧ (g = 0 → a = 0) ∧ Hid (R0 = more (g - 0) (dg 9223372036854775807 101 20 (decide (g = 0)) m (s.data.toList.drop g)))) (fun i _ => s.size - (intOf i).toNat)
  case atStart => exact ⟨0, 0, 0, rfl, rfl, by omega, by omega, Lib.hid rfl, Nat.le_refl _, by omega, Lib.hid (fun h => absurd h (by omega)), fun _ => rfl, Lib.hid (by rw [Nat.sub_self, more_zero, decide_eq_true rfl]; exact HQ.out.symm)⟩
  case round =>
    obtain ⟨g, m, a, rfl, rfl, ha0, ha1, HA, hgf, hg, HZ, hj0, HD⟩ := hrel
    by_cases hlt : g < s.size
    · have hcons := Lib.hid (drop_cons s g hlt)
      have hpz : (g : Int) < (s.size : Int) := by omega
      have hpe : ((g : Int) == (s.size : Int)) = false := by rw [Bool.eq_false_iff, Ne, beq_iff_eq]; omega
      by_cases hxs : s[g] = 101
      · have heq : ((s[g].toNat : Int) == 101) = true := by rw [u8_lit hlt 101 101 rfl]; simpa using hxs
        by_cases hj : 0 < g
        · have HF : Hid (res = .ok (.mk 1 ((fun m => (m : Int)) m) .empty [], (g + 1 - 0) + 1)) := Lib.hid (rdNum_of_ok HRES.out (by
            rw [HD.out, hcons.out, hxs, decide_eq_false (by omega), dg_stop]
            simp only [more]
            rw [show 1 + (g - 0) = g + 1 - 0 by omega]))
          have hjz : (0 : Int) < (g : Int) := by omega
          clear hxs hj0
          go_wp2
          go_ret3
          exact NumPost.fine HF.out (ret_t3 HA.out (by omega)) rfl
        · have hgp : g = 0 := by omega
          have ha00 := hj0 hgp
          have HF : Hid (res = .error 20) := Lib.hid (rdNum_of_err HRES.out (by
            rw [HD.out, hcons.out, hxs, decide_eq_true hgp, dg_bad _ _ _ _ _ _ _ (.inr rfl) (.inl nd101)]
            rfl))
          have hgt : (57 : Int) < (s[g].toNat : Int) := by rw [hxs]; decide
          have hjz : ¬ (0 : Int) < (g : Int) := by omega
          have HX := Lib.hid hxs
          have HG := Lib.hid hgp
          clear hxs hgp hj0
          subst ha00
          go_wp2
          go_ret3
          exact NumPost.err HF.out rfl rfl
      · have heq : ((s[g].toNat : Int) == 101) = false := by rw [u8_lit hlt 101 101 rfl]; simpa using hxs
        by_cases hdig : isDig s[g] = true
        · have hd1 := isDig_iff.1 hdig
          have hd2 : (48 : Int) ≤ (s[g].toNat : Int) := by omega
          have hd3 : (s[g].toNat : Int) ≤ 57 := by omega
          by_cases hj : 0 < g
          · have hjz : (0 : Int) < (g : Int) := by omega
            have hje : ((g : Int) == 0) = false := by rw [Bool.eq_false_iff, Ne, beq_iff_eq]; omega
            have h1z : 0 < s.size := by omega
            by_cases hm0 : m = 0
            · have HF : Hid (res = .error 20) := Lib.hid (rdNum_of_err HRES.out (by
                rw [HD.out, hcons.out, decide_eq_false (by omega), dg_bad _ _ _ _ _ _ _ (.inl hxs) (.inr ⟨rfl, hm0⟩)]
                rfl))
              have h48 : s[0] = 48 := ((HZ.out hj).2 hm0).2
              have h48b : ((s[0].toNat : Int) == 48) = true := by rw [u8_lit h1z 48 48 rfl]; simpa using h48
              have HM := Lib.hid hm0
              clear hxs hm0 h48 hdig hd1 hj0
              go_wp2
              go_ret3
              exact NumPost.err HF.out rfl rfl
            · have h48 : ¬ s[0] = 48 := fun e => hm0 ((HZ.out hj).1 ⟨h1z, e⟩)
              have h48b : ((s[0].toNat : Int) == 48) = false := by rw [u8_lit h1z 48 48 rfl]; simpa using h48
              have h3 : decide (g = 0) = true ∨ m ≠ 0 := .inr hm0
              have HZN : Hid (0 < g + 1 → ((∃ h : 0 < s.size, s[0] = 48) ↔ 10 * m + (s[g].toNat - 48) = 0)) := Lib.hid (fun _ => ⟨fun ⟨_, e⟩ => absurd e h48, fun e => absurd e (by omega)⟩)
              have HX := Lib.hid hxs
              have HDG := Lib.hid hdig
              clear hxs hdig h48 hm0 hj0
              by_cases hov : 9223372036854775807 < 10 * a + ((s[g].toNat : Int) - 48)
              · have HF : Hid (res = .error 20) := Lib.hid (rdNum_of_err HRES.out (by
                  have e1 := HA.out
                  rw [HD.out, hcons.out, dg_over _ _ _ _ _ _ _ (.inl HX.out) HDG.out h3 (by omega)]
                  rfl))
                clear h3 hd1
                by_cases hbig : 922337203685477580 < a
                all_goals
                  go_wp2
                  go_ret3
                  exact NumPost.err HF.out rfl rfl
              · have HF : Hid (R0 = more (g + 1 - 0) (dg 9223372036854775807 101 20 (decide (g + 1 = 0)) (10 * m + (s[g].toNat - 48)) (s.data.toList.drop (g + 1)))) := Lib.hid (by
                  have e1 := HA.out
                  rw [HD.out, hcons.out, dg_on _ _ _ _ _ _ _ (.inl HX.out) HDG.out h3 (by omega), more_more, decide_eq_false (by omega : ¬ g + 1 = 0), show 1 + (g - 0) = g + 1 - 0 by omega])
                have HAA : Hid (10 * a + ((s[g].toNat : Int) - 48) = ((10 * m + (s[g].toNat - 48) : Nat) : Int)) := Lib.hid (by
                  have e1 := HA.out
                  omega)
                have hbig : ¬ 922337203685477580 < a := by omega
                clear h3 hd1
                go_wp2
                go_round
                case rel => exact ⟨g + 1, _, _, by go_num, rfl, by omega, by omega, HAA, by omega, by omega, HZN, by omega, HF⟩
                case measure => simp [intOf]; omega
          · have hgp : g = 0 := by omega
            have ha00 : a = 0 := hj0 hgp
            subst hgp
            have hm0 : m = 0 := by have := HA.out; omega
            have HF : Hid (R0 = more (0 + 1 - 0) (dg 9223372036854775807 101 20 (decide (0 + 1 = 0)) (10 * m + (s[0].toNat - 48)) (s.data.toList.drop (0 + 1)))) := Lib.hid (by
              rw [HD.out, hcons.out, dg_on _ _ _ _ _ _ _ (.inl hxs) hdig (.inl (decide_eq_true rfl)) (by omega), more_more, decide_eq_false (by omega : ¬ 0 + 1 = 0), show 1 + (0 - 0) = 0 + 1 - 0 by omega])
            have HZN : Hid (0 < 0 + 1 → ((∃ h : 0 < s.size, s[0] = 48) ↔ 10 * m + (s[0].toNat - 48) = 0)) := Lib.hid (fun _ => by
              subst hm0
              constructor
              · rintro ⟨_, e⟩; rw [e]; rfl
              · intro e
                refine ⟨hlt, ?_⟩
                have : s[0].toNat = 48 := by omega
                exact UInt8.toNat_inj.1 (by rw [this]; rfl))
            have HX := Lib.hid hxs
            have HDG := Lib.hid hdig
            have HAA : Hid (((s[0].toNat : Int) - 48) = ((10 * m + (s[0].toNat - 48) : Nat) : Int)) := Lib.hid (by subst hm0; omega)
            clear hxs hdig hd1 hj0 hm0
            subst ha00
            have h48c : ((s[0].toNat : Int) == 48) = true ∨ ((s[0].toNat : Int) == 48) = false := by
              generalize ((s[0].toNat : Int) == 48) = b
              cases b
              · exact .inr rfl
              · exact .inl rfl
            rcases h48c with h48b | h48b
            all_goals
              go_wp2
              go_round
              case rel => exact ⟨0 + 1, _, _, rfl, rfl, by omega, by omega, Lib.hid (by have := HAA.out; omega), by omega, by omega, HZN, by omega, HF⟩
              case measure => simp [intOf]; omega
        · have hdf : isDig s[g] = false := by simpa using hdig
          have hnd : (s[g].toNat : Int) < 48 ∨ (57 : Int) < (s[g].toNat : Int) := by
            by_cases h1 : (s[g].toNat : Int) < 48
            · exact .inl h1
            · refine .inr ?_
              by_cases h2 : (57 : Int) < (s[g].toNat : Int)
              · exact h2
              · exact absurd (isDig_iff.2 (by omega)) hdig
          have HF : Hid (res = .error 20) := Lib.hid (rdNum_of_err HRES.out (by
            rw [HD.out, hcons.out, dg_bad _ _ _ _ _ _ _ (.inl hxs) (.inl hdf)]
            rfl))
          have HX := Lib.hid hxs
          have HDG := Lib.hid hdf
          clear hxs hdf hdig hj0
          rcases hnd with hnd | hnd
          all_goals
            go_wp2
            go_ret3
            exact NumPost.err HF.out rfl rfl
    · have HF : Hid (res = .error 21) := Lib.hid (rdNum_of_err HRES.out (by
        rw [HD.out, drop_nil s g hlt, dg_nil]
        rfl))
      have hpe : ((g : Int) == (s.size : Int)) = true := by rw [beq_iff_eq]; omega
      clear hj0
      go_wp2
      go_ret3
      exact NumPost.err HF.out rfl rfl

end Go.Proofs.YtcbkgcnajplagaaDoor.Be
end
section
set_option linter.unusedVariables false
set_option linter.unusedSimpArgs false
namespace Go.Proofs.YtcbkgcnajplagaaDoor.Be
open Go Go.RowKit

set_option maxRecDepth 100000 in
set_option maxHeartbeats 16000000 in
theorem rnumber_neg (s : ByteArray) (h0 : 0 < s.size) (h45 : s[0] = 45) (h48 : (s.data.toList.drop 1).head? ≠ some 48) (hs : s.size ≤ 1000000000) (w : World) : Calls Tryd.prog 77 #[.string s] w (NumPost (rdNum s.data.toList) w) := by
  have hfirst : ((s[0].toNat : Int) == 45) = true := by rw [u8_lit h0 45 45 rfl]; simpa using h45
  have h0z : (0 : Int) < (s.size : Int) := by omega
  have HRES : Hid (rdNum s.data.toList = (match dg 9223372036854775808 101 20 true 0 (s.data.toList.drop 1) with | .error e => .error e | .ok (m, n) => .ok (.mk 1 (-(m : Int)) .empty [], n + 2))) := Lib.hid (by
    have hd := drop_cons s 0 h0
    rw [List.drop_zero, h45] at hd
    rw [hd, rdNum_minus, if_neg (by rw [hd] at h48; simpa using h48)]
    rfl)
  have HN48 : Hid (∀ h : 1 < s.size, s[1] ≠ 48) := Lib.hid (fun h e => h48 (by rw [drop_cons s 1 h]; simp [e]))
  clear h45 h48
  generalize hr : rdNum s.data.toList = res at *
  clear hr
  generalize hq : dg 9223372036854775808 101 20 true 0 (s.data.toList.drop 1) = R0 at *
  have HQ := Lib.hid hq
  clear hq
  go_enter Tryd.func77, Tryd.ntmps77
  go_wp2
  go_loop [5, 8] (fun i n => ∃ (g m : Nat) (a : Int), i = .int .i64 (g : Int) ∧ n = .int .i64 a ∧ -9223372036854775808 ≤ a ∧ a ≤ 0 ∧ Hid (a = -(m : Int)) ∧ 1 ≤ g ∧ g ≤ s.size ∧ Hid (1 < g → ((∃ h : 1 < s.size, s[1] = 48) ↔ m = 0)) ∧ (g = 1 → a = 0) ∧ Hid (R0 = more (g - 1) (dg 9223372036854775808 101 20 (decide (g = 1)) m (s.data.toList.drop g)))) (fun i _ => s.size - (intOf i).toNat)
  case atStart => exact ⟨1, 0, 0, rfl, rfl, by omega, by omega, Lib.hid rfl, Nat.le_refl _, by omega, Lib.hid (fun h => absurd h (by omega)), fun _ => rfl, Lib.hid (by rw [Nat.sub_self, more_zero, decide_eq_true rfl]; exact HQ.out.symm)⟩
  case round =>
    obtain ⟨g, m, a, rfl, rfl, ha0, ha1, HA, hgf, hg, HZ, hj0, HD⟩ := hrel
    by_cases hlt : g < s.size
    · have hcons := Lib.hid (drop_cons s g hlt)
      have hpz : (g : Int) < (s.size : Int) := by omega
      have hpe : ((g : Int) == (s.size : Int)) = false := by rw [Bool.eq_false_iff, Ne, beq_iff_eq]; omega
      by_cases hxs : s[g] = 101
      · have heq : ((s[g].toNat : Int) == 101) = true := by rw [u8_lit hlt 101 101 rfl]; simpa using hxs
        by_cases hj : 1 < g
        · have HF : Hid (res = .ok (.mk 1 ((fun m => -(m : Int)) m) .empty [], (g + 1 - 1) + 2)) := Lib.hid (rdNum_of_ok HRES.out (by
            rw [HD.out, hcons.out, hxs, decide_eq_false (by omega), dg_stop]
            simp only [more]
            rw [show 1 + (g - 1) = g + 1 - 1 by omega]))
          have hjz : (1 : Int) < (g : Int) := by omega
          clear hxs hj0
          go_wp2
          go_ret3
          exact NumPost.fine HF.out (ret_t3 HA.out (by omega)) rfl
        · have hgp : g = 1 := by omega
          have ha00 := hj0 hgp
          have HF : Hid (res = .error 20) := Lib.hid (rdNum_of_err HRES.out (by
            rw [HD.out, hcons.out, hxs, decide_eq_true hgp, dg_bad _ _ _ _ _ _ _ (.inr rfl) (.inl nd101)]
            rfl))
          have hgt : (57 : Int) < (s[g].toNat : Int) := by rw [hxs]; decide
          have hjz : ¬ (1 : Int) < (g : Int) := by omega
          have HX := Lib.hid hxs
          have HG := Lib.hid hgp
          clear hxs hgp hj0
          subst ha00
          go_wp2
          go_ret3
          exact NumPost.err HF.out rfl rfl
      · have heq : ((s[g].toNat : Int) == 101) = false := by rw [u8_lit hlt 101 101 rfl]; simpa using hxs
        by_cases hdig : isDig s[g] = true
        · have hd1 := isDig_iff.1 hdig
          have hd2 : (48 : Int) ≤ (s[g].toNat : Int) := by omega
          have hd3 : (s[g].toNat : Int) ≤ 57 := by omega
          by_cases hj : 1 < g
          · have hjz : (1 : Int) < (g : Int) := by omega
            have hje : ((g : Int) == 1) = false := by rw [Bool.eq_false_iff, Ne, beq_iff_eq]; omega
            have h1z : 1 < s.size := by omega
            by_cases hm0 : m = 0
            · have HF : Hid (res = .error 20) := Lib.hid (rdNum_of_err HRES.out (by
                rw [HD.out, hcons.out, decide_eq_false (by omega), dg_bad _ _ _ _ _ _ _ (.inl hxs) (.inr ⟨rfl, hm0⟩)]
                rfl))
              have h48 : s[1] = 48 := ((HZ.out hj).2 hm0).2
              have h48b : ((s[1].toNat : Int) == 48) = true := by rw [u8_lit h1z 48 48 rfl]; simpa using h48
              have HM := Lib.hid hm0
              clear hxs hm0 h48 hdig hd1 hj0
              go_wp2
              go_ret3
              exact NumPost.err HF.out rfl rfl
            · have h48 : ¬ s[1] = 48 := fun e => hm0 ((HZ.out hj).1 ⟨h1z, e⟩)
              have h48b : ((s[1].toNat : Int) == 48) = false := by rw [u8_lit h1z 48 48 rfl]; simpa using h48
              have h3 : decide (g = 1) = true ∨ m ≠ 0 := .inr hm0
              have HZN : Hid (1 < g + 1 → ((∃ h : 1 < s.size, s[1] = 48) ↔ 10 * m + (s[g].toNat - 48) = 0)) := Lib.hid (fun _ => ⟨fun ⟨_, e⟩ => absurd e h48, fun e => absurd e (by omega)⟩)
              have HX := Lib.hid hxs
              have HDG := Lib.hid hdig
              clear hxs hdig h48 hm0 hj0
              by_cases hov : 10 * a - ((s[g].toNat : Int) - 48) < -9223372036854775808
              · have HF : Hid (res = .error 20) := Lib.hid (rdNum_of_err HRES.out (by
                  have e1 := HA.out
                  rw [HD.out, hcons.out, dg_over _ _ _ _ _ _ _ (.inl HX.out) HDG.out h3 (by omega)]
                  rfl))
                clear h3 hd1
                by_cases hbig : a < -922337203685477580
                all_goals
                  go_wp2
                  go_ret3
                  exact NumPost.err HF.out rfl rfl
              · have HF : Hid (R0 = more (g + 1 - 1) (dg 9223372036854775808 101 20 (decide (g + 1 = 1)) (10 * m + (s[g].toNat - 48)) (s.data.toList.drop (g + 1)))) := Lib.hid (by
                  have e1 := HA.out
                  rw [HD.out, hcons.out, dg_on _ _ _ _ _ _ _ (.inl HX.out) HDG.out h3 (by omega), more_more, decide_eq_false (by omega : ¬ g + 1 = 1), show 1 + (g - 1) = g + 1 - 1 by omega])
                have HAA : Hid (10 * a + -((s[g].toNat : Int) - 48) = -((10 * m + (s[g].toNat - 48) : Nat) : Int)) := Lib.hid (by
                  have e1 := HA.out
                  omega)
                have hbig : ¬ a < -922337203685477580 := by omega
                clear h3 hd1
                go_wp2
                go_round
                case rel => exact ⟨g + 1, _, _, by go_num, rfl, by omega, by omega, HAA, by omega, by omega, HZN, by omega, HF⟩
                case measure => simp [intOf]; omega
          · have hgp : g = 1 := by omega
            have ha00 : a = 0 := hj0 hgp
            subst hgp
            have hm0 : m = 0 := by have := HA.out; omega
            have HF : Hid (R0 = more (1 + 1 - 1) (dg 9223372036854775808 101 20 (decide (1 + 1 = 1)) (10 * m + (s[1].toNat - 48)) (s.data.toList.drop (1 + 1)))) := Lib.hid (by
              rw [HD.out, hcons.out, dg_on _ _ _ _ _ _ _ (.inl hxs) hdig (.inl (decide_eq_true rfl)) (by omega), more_more, decide_eq_false (by omega : ¬ 1 + 1 = 1), show 1 + (1 - 1) = 1 + 1 - 1 by omega])
            have HZN : Hid (1 < 1 + 1 → ((∃ h : 1 < s.size, s[1] = 48) ↔ 10 * m + (s[1].toNat - 48) = 0)) := Lib.hid (fun _ => by
              subst hm0
              constructor
              · rintro ⟨_, e⟩; rw [e]; rfl
              · intro e
                refine ⟨hlt, ?_⟩
                have : s[1].toNat = 48 := by omega
                exact UInt8.toNat_inj.1 (by rw [this]; rfl))
            have HX := Lib.hid hxs
            have HDG := Lib.hid hdig
            have HAA : Hid (-((s[1].toNat : Int) - 48) = -((10 * m + (s[1].toNat - 48) : Nat) : Int)) := Lib.hid (by subst hm0; omega)
            clear hxs hdig hd1 hj0 hm0
            subst ha00
            have h48b : ((s[1].toNat : Int) == 48) = false := by rw [u8_lit hlt 48 48 rfl]; simpa using HN48.out hlt
            all_goals
              go_wp2
              go_round
              case rel => exact ⟨1 + 1, _, _, rfl, rfl, by omega, by omega, Lib.hid (by have := HAA.out; omega), by omega, by omega, HZN, by omega, HF⟩
              case measure => simp [intOf]; omega
        · have hdf : isDig s[g] = false := by simpa using hdig
          have hnd : (s[g].toNat : Int) < 48 ∨ (57 : Int) < (s[g].toNat : Int) := by
            by_cases h1 : (s[g].toNat : Int) < 48
            · exact .inl h1
            · refine .inr ?_
              by_cases h2 : (57 : Int) < (s[g].toNat : Int)
              · exact h2
              · exact absurd (isDig_iff.2 (by omega)) hdig
          have HF : Hid (res = .error 20) := Lib.hid (rdNum_of_err HRES.out (by
            rw [HD.out, hcons.out, dg_bad _ _ _ _ _ _ _ (.inl hxs) (.inl hdf)]
            rfl))
          have HX := Lib.hid hxs
          have HDG := Lib.hid hdf
          clear hxs hdf hdig hj0
          rcases hnd with hnd | hnd
          all_goals
            go_wp2
            go_ret3
            exact NumPost.err HF.out rfl rfl
    · have HF : Hid (res = .error 21) := Lib.hid (rdNum_of_err HRES.out (by
        rw [HD.out, drop_nil s g hlt, dg_nil]
        rfl))
      have hpe : ((g : Int) == (s.size : Int)) = true := by rw [beq_iff_eq]; omega
      clear hj0
      go_wp2
      go_ret3
      exact NumPost.err HF.out rfl rfl

end Go.Proofs.YtcbkgcnajplagaaDoor.Be
end
