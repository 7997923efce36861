/- What value of package post returns: a message as a value. Conditions: its numbers and hits read as lists; few of them. -/
import Derived.Test.YtcbkgcnajplagaaDoorJ06
import Derived.Test.YtcbkgcnajplagaaDoorJ22
import Derived.Test.YtcbkgcnajplagaaDoorJ05
import Derived.Test.YtcbkgcnajplagaaDoorJ18
import Derived.Test.YtcbkgcnajplagaaDoorJ17
import Derived.Deep.AppendLies
import Derived.Deep.RegionLaw
set_option linter.unusedVariables false
set_option linter.unusedSimpArgs false
set_option maxRecDepth 100000
namespace Go.Proofs.YtcbkgcnajplagaaDoor.Po
open Go Go.RowKit
open Be (T kindsOk kindsOkL deepT deepL wfT wfL tidy tidyL onlyRes takeRes gdT RdL Rd RdA ReadsP Keeps)
theorem ivals_one : ∀ (l : List Int), ∀ u ∈ ivals l, u.oneCell' = true
  | x :: r, u, hu => by
    have e : ivals (x :: r) = vcell x ++ ivals r := rfl
    rw [e] at hu
    rcases List.mem_append.1 hu with hu | hu
    · simp [vcell] at hu
      rcases hu with rfl | rfl | rfl | rfl <;> rfl
    · exact ivals_one r u hu
theorem rd_nT (n : Int) (w : World) (ok : Nat → Prop) : Rd ok w (nT n) (vcell n) := ⟨none, 0, [], rfl, by simp [maxLen], by simp, by simp [maxLen], ReadsP.none_, rfl⟩
theorem rdl_nT (w : World) (ok : Nat → Prop) : ∀ l : List Int, RdL ok w (l.map nT) (ivals l)
  | [] => rfl
  | x :: r => ⟨vcell x, ivals r, rfl, rd_nT x w ok, rdl_nT w ok r⟩
theorem rdl_pre {w : World} {ok : Nat → Prop} {rest : List T} {xs : List Value} (h : RdL ok w rest xs) : ∀ l : List Int, RdL ok w (l.map nT ++ rest) (ivals l ++ xs)
  | [] => h
  | x :: r => ⟨vcell x, ivals r ++ xs, by show (vcell x ++ ivals r) ++ xs = _; rw [List.append_assoc], rd_nT x w ok, rdl_pre h r⟩
def lcell (A : Option Addr) (n c : Nat) : List Value := [.int .i64 3, .int .i64 0, .string ⟨#[]⟩, .slice A n c]
theorem rd_lT {w : World} {ok : Nat → Prop} {l : List Int} {A : Option Addr} {n c : Nat} (hn : n = l.length) (hnc : n ≤ c) (hc : c ≤ maxLen) (h : ReadsP ok w 4 A n (ivals l)) : Rd ok w (lT l) (lcell A n c) := by
  subst hn
  have e1 : (l.map nT).length = l.length := by simp
  exact ⟨A, c, ivals l, by rw [e1]; rfl, by simp [maxLen], by rw [e1]; exact hnc, hc, by rw [e1]; exact h, rdl_nT w ok l⟩
/-- The four values behind the eleven numbers. -/
def tailC (m : M) (A : Option Addr) (n c : Nat) (A' : Option Addr) (n' c' : Nat) : List Value := [.int .i64 3, .int .i64 0, .string ⟨#[]⟩, .slice A n c, .int .i64 1, .int .i64 m.er, .string ⟨#[]⟩, .slice none 0 0, .int .i64 1, .int .i64 (b2i m.wa), .string ⟨#[]⟩, .slice none 0 0, .int .i64 3, .int .i64 0, .string ⟨#[]⟩, .slice A' n' c']
theorem rdl_items {w : World} {ok : Nat → Prop} {m : M} {A : Option Addr} {n c : Nat} {A' : Option Addr} {n' c' : Nat} (hn : n = m.vs.length) (hnc : n ≤ c) (hc : c ≤ maxLen) (h : ReadsP ok w 4 A n (ivals m.vs)) (hn' : n' = (hitsL m.hs).length) (hnc' : n' ≤ c') (hc' : c' ≤ maxLen) (h' : ReadsP ok w 4 A' n' (ivals (hitsL m.hs))) :
    RdL ok w (itemsM m) (ivals (headI m) ++ tailC m A n c A' n' c') := by
  refine rdl_pre (rest := [lT m.vs, nT m.er, nT (b2i m.wa), lT (hitsL m.hs)]) ?_ (headI m)
  exact ⟨lcell A n c, _, rfl, rd_lT hn hnc hc h, vcell m.er, _, rfl, rd_nT _ w ok, vcell (b2i m.wa), _, rfl, rd_nT _ w ok, lcell A' n' c', [], rfl, rd_lT hn' hnc' hc' h', rfl⟩
theorem tail_one (m : M) (A : Option Addr) (n c : Nat) (A' : Option Addr) (n' c' : Nat) : ∀ u ∈ tailC m A n c A' n' c', u.oneCell' = true := fun u hu => by
  simp [tailC] at hu
  rcases hu with rfl | rfl | rfl | rfl | rfl | rfl | rfl | rfl | rfl | rfl | rfl | rfl | rfl | rfl | rfl | rfl <;> rfl
/-- A list of numbers that grows, of which k are there. -/
structure Gr (b : Nat) (w1 wr : World) (va : Value) (k : Nat) (l : List Int) : Prop where
  own : wr.ownsRow b 47 4 va k (ivals l)
  le : b ≤ wr.heap.size
  bel : Below b w1 wr
theorem Gr.on {b : Nat} {w1 wr w2 : World} {va : Value} {k : Nat} {l : List Int} (h : Gr b w1 wr va k l) (hb : Below wr.heap.size wr w2) : Gr b w1 w2 va k l :=
  ⟨keep_none h.own hb, Nat.le_trans h.le hb.size, h.bel.trans (hb.mono h.le)⟩
theorem Gr.step {b : Nat} {w1 wr w3 : World} {va v' : Value} {k : Nat} {l : List Int} (h : Gr b w1 wr va k l) {m : Nat} {l' : List Int} (ho : w3.ownsRow b 47 4 v' m (ivals l')) (hg : wr.grownBy w3 va.ownBlock) : Gr b w1 w3 v' m l' :=
  have hb := below_own h.own hg h.le
  ⟨ho, Nat.le_trans h.le hb.size, h.bel.trans hb⟩
/-- What is kept while the parts are put together: the message, the result's variable, three lists. -/
structure KS (m : M) (w w1 w3 w4 : World) (A : Option Addr) (n c : Nat) (A' : Option Addr) (n' c' : Nat) (vl : Value) (Av : Option Addr) (cv : Nat) (Ah : Option Addr) (ch N : Nat) (w' : World) : Prop where
  rM : Row w' w.heap.size 30 (msgV m A n c A' n' c')
  rZ : Row w' (w.heap.size + 1) 47 [.int .i64 0, .int .i64 0, .string ⟨#[]⟩, .slice none 0 0]
  gl : Gr w1.heap.size w1 w' vl 11 (headI m)
  gv : Gr w3.heap.size w3 w' (.slice Av n cv) n m.vs
  gh : Gr w4.heap.size w4 w' (.slice Ah (2 * n') ch) (2 * n') (hitsL m.hs)
  bel : Below w.heap.size w w'
  ge : N ≤ w'.heap.size
  own : ∀ g, vl.ownBlock = some g → w1.heap.size ≤ g ∧ g < N
  p1 : w.heap.size + 1 < w1.heap.size
  p5 : w.heap.size + 1 < N
theorem KS.on {m : M} {w w1 w3 w4 : World} {A : Option Addr} {n c : Nat} {A' : Option Addr} {n' c' : Nat} {vl : Value} {Av : Option Addr} {cv : Nat} {Ah : Option Addr} {ch N : Nat} {w' w'' : World} (h : KS m w w1 w3 w4 A n c A' n' c' vl Av cv Ah ch N w') (hb : Below w'.heap.size w' w'') : KS m w w1 w3 w4 A n c A' n' c' vl Av cv Ah ch N w'' :=
  ⟨h.rM.keep (hb.block _ h.rM.lt), h.rZ.keep (hb.block _ h.rZ.lt), h.gl.on hb, h.gv.on hb, h.gh.on hb, h.bel.trans (hb.mono h.bel.size), Nat.le_trans h.ge hb.size, h.own, h.p1, h.p5⟩
/-- The four values behind the eleven numbers, with z for Was. -/
def tailV (m : M) (z : Int) (A : Option Addr) (n c : Nat) (A' : Option Addr) (n' c' : Nat) : List Value := [.int .i64 3, .int .i64 0, .string ⟨#[]⟩, .slice A n c, .int .i64 1, .int .i64 m.er, .string ⟨#[]⟩, .slice none 0 0, .int .i64 1, .int .i64 z, .string ⟨#[]⟩, .slice none 0 0, .int .i64 3, .int .i64 0, .string ⟨#[]⟩, .slice A' n' c']
theorem tailV_one (m : M) (z : Int) (A : Option Addr) (n c : Nat) (A' : Option Addr) (n' c' : Nat) : ∀ u ∈ tailV m z A n c A' n' c', u.oneCell' = true := fun u hu => by
  simp [tailV] at hu
  rcases hu with rfl | rfl | rfl | rfl | rfl | rfl | rfl | rfl | rfl | rfl | rfl | rfl | rfl | rfl | rfl | rfl <;> rfl
/-- Fifteen values behind the append. -/
structure V10 (m : M) (w : World) (g : Nat) (A : Option Addr) (n c : Nat) (A' : Option Addr) (n' c' : Nat) (w' : World) : Prop where
  rp : ReadsP (fun _ => True) w' 4 (some ⟨g, 0, none⟩) 15 (ivals (headI m) ++ tailC m A n c A' n' c')
  rZ : Row w' (w.heap.size + 1) 47 [.int .i64 0, .int .i64 0, .string ⟨#[]⟩, .slice none 0 0]
  rdl : RdL (fun b => w.heap.size + 1 < b) w' (itemsM m) (ivals (headI m) ++ tailC m A n c A' n' c')
  bel : Below w.heap.size w w'
theorem items_one (m : M) (A : Option Addr) (n c : Nat) (A' : Option Addr) (n' c' : Nat) : ∀ u ∈ ivals (headI m) ++ tailC m A n c A' n' c', u.oneCell' = true := fun u hu => by
  rcases List.mem_append.1 hu with hu | hu
  · exact ivals_one _ u hu
  · exact tail_one m A n c A' n' c' u hu
theorem KS.fin {m : M} {w w1 w3 w4 : World} {A : Option Addr} {n c : Nat} {A' : Option Addr} {n' c' : Nat} {vl : Value} {Av : Option Addr} {cv : Nat} {Ah : Option Addr} {ch N : Nat} {w9 w10 : World} (h : KS m w w1 w3 w4 A n c A' n' c' vl Av cv Ah ch N w9) {z : Int} (hz : z = b2i m.wa) {A6 A9 : Option Addr} {c6 c9 : Nat} (h6 : ReadsP (fun b => N ≤ b) w9 4 A6 n (ivals m.vs)) (k6 : n ≤ c6) (m6 : c6 ≤ maxLen) (h9 : ReadsP (fun b => N ≤ b) w9 4 A9 (2 * n') (ivals (hitsL m.hs))) (k9 : 2 * n' ≤ c9) (m9 : c9 ≤ maxLen) (hn : n = m.vs.length) (hn' : n' = m.hs.length) {o : Obj} {g cap : Nat}
    (hown : w10.ownsRow w1.heap.size 47 4 (.slice (some ⟨g, 0, none⟩) 15 cap) 15 (ivals (headI m) ++ tailV m z A6 n c6 A9 (2 * n') c9)) (hg : (w9.alloc o).grownBy w10 vl.ownBlock) : V10 m w g A6 n c6 A9 (2 * n') c9 w10 := by
  subst hz
  have hba : Below w9.heap.size w9 (w9.alloc o) := (Below.refl _ w9).alloc (Nat.le_refl _) _
  have hp1 := h.p1
  have hp5 := h.p5
  have hkeep : Keeps (fun b => N ≤ b) w9 w10 := (Keeps.of_below hba (fun b _ h => h)).trans (Keeps.of_grown hg (fun b hb e => by have := h.own b e.symm; omega))
  refine ⟨(ReadsP.of_own hown).mono (fun _ _ _ => trivial), ?_, ?_, ?_⟩
  · have h1 := h.rZ.keep (hba.block _ h.rZ.lt)
    exact h1.keep (hg.block _ h1.lt (fun e => by have := h.own _ e.symm; omega))
  · exact RdL.mono (fun b hb _ => by omega) _ _ (rdl_items hn k6 m6 (h6.keep hkeep) (by rw [hitsL_len]; omega) k9 m9 (h9.keep hkeep))
  · exact (h.bel.trans (hba.mono h.bel.size)).grown hg (by have := h.bel.size; have := hba.size; omega) (fun g e => by have := h.own g e; omega)
/-- Fifteen values as a list of their own. -/
structure VF (m : M) (w : World) (A11 : Option Addr) (c11 : Nat) (w' : World) : Prop where
  ex : ∃ xs, ReadsP (fun b => w.heap.size + 1 < b) w' 4 A11 15 xs ∧ RdL (fun b => w.heap.size + 1 < b) w' (itemsM m) xs
  k : 15 ≤ c11
  m : c11 ≤ maxLen
  rZ : Row w' (w.heap.size + 1) 47 [.int .i64 0, .int .i64 0, .string ⟨#[]⟩, .slice none 0 0]
  bel : Below w.heap.size w w'
theorem V10.fin {m : M} {w : World} {g : Nat} {A : Option Addr} {n c : Nat} {A' : Option Addr} {n' c' : Nat} {w10 w11 : World} (h : V10 m w g A n c A' n' c' w10) {A11 : Option Addr} {c11 : Nat} (hown : w11.ownsRow (w10.heap.size + 1) 47 4 (.slice A11 15 c11) 15 (ivals (headI m) ++ tailC m A n c A' n' c')) (hk : 15 ≤ c11) (hm : c11 ≤ maxLen) (hb : Below w10.heap.size w10 w11) : VF m w A11 c11 w11 :=
  ⟨⟨_, (ReadsP.of_own hown).mono (fun b hb _ => by have := h.rZ.lt; omega), RdL.keep (Keeps.of_below hb (fun b _ h => h)) _ _ h.rdl⟩, hk, hm, h.rZ.keep (hb.block _ h.rZ.lt), h.bel.trans (hb.mono h.bel.size)⟩
theorem VF.done {m : M} {w : World} {A11 : Option Addr} {c11 : Nat} {w11 : World} (h : VF m w A11 c11 w11) (u0 u1 u2 u3 : Value) : RdA (fun b => b < ((((w11.setCell ⟨w.heap.size + 1, 0, none⟩ u0).setCell ⟨w.heap.size + 1, 1, none⟩ u1).setCell ⟨w.heap.size + 1, 2, none⟩ u2).setCell ⟨w.heap.size + 1, 3, none⟩ u3).heap.size) ((((w11.setCell ⟨w.heap.size + 1, 0, none⟩ u0).setCell ⟨w.heap.size + 1, 1, none⟩ u1).setCell ⟨w.heap.size + 1, 2, none⟩ u2).setCell ⟨w.heap.size + 1, 3, none⟩ u3) (valM m) (.agg #[.int .i64 3, .int .i64 0, .string ⟨#[]⟩, .slice A11 15 c11]) ∧
    Below w.heap.size w ((((w11.setCell ⟨w.heap.size + 1, 0, none⟩ u0).setCell ⟨w.heap.size + 1, 1, none⟩ u1).setCell ⟨w.heap.size + 1, 2, none⟩ u2).setCell ⟨w.heap.size + 1, 3, none⟩ u3) := by
  obtain ⟨xs, hr, hl⟩ := h.ex
  have hk := ((((Keeps.setCell (ok := fun b => w.heap.size + 1 < b) (Keeps.refl _ w11) ⟨w.heap.size + 1, 0, none⟩ (by simp) u0).setCell ⟨w.heap.size + 1, 1, none⟩ (by simp) u1).setCell ⟨w.heap.size + 1, 2, none⟩ (by simp) u2).setCell ⟨w.heap.size + 1, 3, none⟩ (by simp) u3)
  refine ⟨⟨A11, c11, xs, rfl, by simp [valM, Be.T.s, maxLen], h.k, h.m, (hr.keep hk).mono (fun b _ hl => hl), RdL.mono (fun b _ hl => hl) _ _ (RdL.keep hk _ _ hl)⟩, ?_⟩
  exact (((h.bel.setCell (by simp) _).setCell (by simp) _).setCell (by simp) _).setCell (by simp) _
theorem hitsL_snoc (l : List (Int × Int)) {k : Nat} (hk : k < l.length) : hitsL (l.take (k + 1)) = hitsL (l.take k) ++ [(l.getD k (0, 0)).1, (l.getD k (0, 0)).2] := by
  rw [take_hit l k hk, hitsL_app]
  rfl
def two (a b : Int) : List Value := [.int .i64 1, .int .i64 a, .string ⟨#[]⟩, .slice none 0 0, .int .i64 1, .int .i64 b, .string ⟨#[]⟩, .slice none 0 0]
theorem ivals_two (l : List Int) (a b : Int) : ivals (l ++ [a, b]) = ivals l ++ two a b := by simp [ivals, vcell, two]
theorem two_one (a b : Int) : ∀ u ∈ two a b, u.oneCell' = true := fun u hu => by
  simp [two] at hu
  rcases hu with rfl | rfl | rfl | rfl | rfl | rfl | rfl | rfl <;> rfl
def ValPost (m : M) (w : World) (e : Ending) (w' : World) : Prop := ∃ v, e = .returned v ∧ RdA (fun b => b < w'.heap.size) w' (valM m) v ∧ Below w.heap.size w w'
set_option maxHeartbeats 8000000 in
theorem value_any (m : M) {w : World} {B : Nat} {A A' : Option Addr} {n c n' c' : Nat} (hR : Reads w B 1 A n (ints m.vs)) (hR' : Reads w B 2 A' n' (hits m.hs)) (hB : B ≤ w.heap.size) (hm : n ≤ 1000) (hm' : n' ≤ 1000) :
    Calls Tryd.prog 18 #[.agg (msgV m A n c A' n' c').toArray] w (ValPost m w) := by
  have hln := hR.len
  have hln' := hR'.hits_len
  obtain ⟨W, hW⟩ : ∃ W, W = (w.alloc (.cells (msgV m A n c A' n' c').toArray 30)).alloc (.cells #[.int .i64 0, .int .i64 0, .string ⟨#[]⟩, .slice none 0 0] 47) := ⟨_, rfl⟩
  have hb0 : Below w.heap.size w W := by rw [hW]; exact ((Below.refl _ w).alloc (Nat.le_refl _) _).alloc (by simp) _
  have hRw : Row W w.heap.size 30 (msgV m A n c A' n' c') := by rw [hW]; exact (Row.new w 30 (msgV m A n c A' n' c')).keep (heap_alloc_lt _ _ (by simp))
  have hRz : Row W (w.heap.size + 1) 47 [.int .i64 0, .int .i64 0, .string ⟨#[]⟩, .slice none 0 0] := by
    rw [hW]
    have := Row.new (w.alloc (.cells (msgV m A n c A' n' c').toArray 30)) 47 [.int .i64 0, .int .i64 0, .string ⟨#[]⟩, .slice none 0 0]
    rwa [World.size_alloc] at this
  have KR := Lib.hid (fun w1 (hb : Below W.heap.size W w1) => show Row w1 w.heap.size 30 (msgV m A n c A' n' c') ∧ Row w1 (w.heap.size + 1) 47 [.int .i64 0, .int .i64 0, .string ⟨#[]⟩, .slice none 0 0] ∧ Reads w1 B 1 A n (ints m.vs) ∧ Reads w1 B 2 A' n' (hits m.hs) ∧ B ≤ w1.heap.size ∧ Below w.heap.size w w1 ∧ W.heap.size ≤ w1.heap.size from
    ⟨hRw.keep (hb.block _ hRw.lt), hRz.keep (hb.block _ hRz.lt), hR.below ((hb0.trans (hb.mono hb0.size)).mono hB), hR'.below ((hb0.trans (hb.mono hb0.size)).mono hB), Nat.le_trans hB (hb0.trans (hb.mono hb0.size)).size, hb0.trans (hb.mono hb0.size), hb.size⟩)
  have hsW : W.heap.size = w.heap.size + 1 + 1 := by rw [hW]; simp
  have HSW := Lib.hid hsW
  have HW := Lib.hid hW
  have HL := Lib.hid (And.intro hln hln')
  have HF := Lib.hid (fields_any w.heap.size W)
  clear hRw hRz hb0 hR hR' hB hW hln hln' hsW
  go_enter Tryd.func18, Tryd.ntmps18
  unfold msgV at HW
  unfold msgV
  go_wp2_with fail
  rw [← HW.out]
  refine HF.out.mono ?_
  intro en w1 hpost
  unfold FldPost at hpost
  obtain ⟨rfl, rF, hb1, hs1⟩ := hpost
  have HX := Lib.hid (And.intro rF (And.intro hb1 rF.lt))
  clear rF hb1 hs1
  go_wp2_with fail
  go_loopw [3, 15] (fun v i wr => ∃ (va : Value) (k : Nat), va = v ∧ i = .int .i64 (k : Int) ∧ k ≤ 11 ∧ Gr w1.heap.size w1 wr va k ((headI m).take k)) (fun v i _ => 11 - (intOf i).toNat)
  case atStart => exact ⟨_, 0, rfl, rfl, Nat.zero_le _, World.ownsRow_nil .., Nat.le_refl _, Below.refl _ _⟩
  case round =>
    obtain ⟨va, k, rfl, rfl, hk, hG⟩ := hrel
    have hbW : Below W.heap.size W wr := HX.out.2.1.trans (hG.bel.mono HX.out.2.1.size)
    obtain ⟨rM, rZ, hV, hH, hBs, hbw, hsz⟩ := KR.out wr hbW
    have rF := HX.out.1.keep (hG.bel.block _ HX.out.2.2)
    by_cases hlt : k < 11
    · have hltz : (k : Int) < 11 := by omega
      obtain ⟨o, e1, e2, _, _⟩ := head_at m w.heap.size A n c A' n' c' hlt
      have c1 := rF.cell e1
      have c2 := rM.cell e2
      have l1 := rF.lt
      have l2 := rM.lt
      have htk := take_snoc (headI m) k hlt
      have HTK := Lib.hid (show ivals ((headI m).take (k + 1)) = ivals ((headI m).take k) ++ vcell ((headI m).getD k 0) by rw [htk, ivals_snoc])
      have HI := Lib.hid (Be.int_any ((headI m).getD k 0) wr)
      have HG := Lib.hid hG
      clear rF rM rZ hV hH hBs hbW hbw hsz hG e1 e2 htk
      generalize (headI m).getD k 0 = x at *
      go_wp2_with fail
      refine HI.out.mono ?_
      rintro en w2 ⟨rfl, hb2⟩
      have hG2 := HG.out.on hb2
      have hle := hG2.le
      have HG2 := Lib.hid hG2
      clear hb2 hG2 c1 c2 l1 l2
      go_wp2_with (at_builtin; refine Be.append_value rfl (.tmp 19) (.tmp 24) rfl w1.heap.size va k (ivals ((headI m).take k)) _ _ _ _ (by intro u hu; simp at hu; rcases hu with rfl | rfl | rfl | rfl <;> rfl) rfl HG2.out.own rfl (by omega) hle ?_; intro v' w3 hown3 hgr3 _)
      exact ⟨⟨_, k + 1, rfl, by go_num, hlt, HG2.out.step (by rw [HTK.out]; exact hown3) hgr3⟩, by simp [intOf]; omega⟩
    · obtain rfl : k = 11 := by omega
      have hnl : ¬ ((11 : Nat) : Int) < 11 := by omega
      obtain ⟨w3, h3⟩ : ∃ w3, w3 = wr := ⟨_, rfl⟩
      subst h3
      have hG3 : Gr w1.heap.size w1 w3 va 11 (headI m) := hG
      have e10 := rM.cell (j := 10) rfl
      have lp := rM.lt
      have HG3 := Lib.hid (And.intro hG3 (And.intro hbW hsz))
      clear rF rM rZ hV hH hBs hbW hbw hsz hG hG3 hk
      go_wp2_with fail
      clear e10 lp
      go_loopw [4, 31] (fun v i wr => ∃ (vb : Value) (k : Nat), vb = v ∧ i = .int .i64 (k : Int) ∧ k ≤ n ∧ Gr w3.heap.size w3 wr vb k (m.vs.take k)) (fun v i _ => n - (intOf i).toNat)
      case atStart => exact ⟨_, 0, rfl, rfl, Nat.zero_le _, World.ownsRow_nil .., Nat.le_refl _, Below.refl _ _⟩
      case round =>
        obtain ⟨vb, k, rfl, rfl, hk, hG⟩ := hrel
        have hbW : Below W.heap.size W wr := HG3.out.2.1.trans (hG.bel.mono HG3.out.2.2)
        obtain ⟨rM, rZ, hV, hH, hBs, hbw, hsz⟩ := KR.out wr hbW
        by_cases hlt : k < n
        · have hltz : (k : Int) < (n : Int) := by omega
          obtain ⟨ad, rfl, hab, hc⟩ := hV.int_at hlt
          have hadl : (ad.add k).block < wr.heap.size := by rw [block_of_add]; omega
          have htk := take_snoc m.vs k (by have := HL.out.1; omega)
          have HTK := Lib.hid (show ivals (m.vs.take (k + 1)) = ivals (m.vs.take k) ++ vcell (m.vs.getD k 0) by rw [htk, ivals_snoc])
          have HI := Lib.hid (Be.int_any (m.vs.getD k 0) wr)
          have HG := Lib.hid hG
          clear rM rZ hV hH hBs hbW hbw hsz hG htk
          generalize m.vs.getD k 0 = x at *
          go_wp2_with fail
          refine HI.out.mono ?_
          rintro en w2 ⟨rfl, hb2⟩
          have hG2 := HG.out.on hb2
          have hle := hG2.le
          have HG2 := Lib.hid hG2
          clear hb2 hG2 hc hadl
          go_wp2_with (at_builtin; refine Be.append_value rfl (.tmp 35) (.tmp 38) rfl w3.heap.size vb k (ivals (m.vs.take k)) _ _ _ _ (by intro u hu; simp at hu; rcases hu with rfl | rfl | rfl | rfl <;> rfl) rfl HG2.out.own rfl (by omega) hle ?_; intro v' w4 hown3 hgr3 _)
          exact ⟨⟨_, k + 1, rfl, by go_num, hlt, HG2.out.step (by rw [HTK.out]; exact hown3) hgr3⟩, by simp [intOf]; omega⟩
        · obtain rfl : k = n := by omega
          have hnl2 : ¬ (k : Int) < (k : Int) := by omega
          obtain ⟨w4, h4⟩ : ∃ w4, w4 = wr := ⟨_, rfl⟩
          subst h4
          have htk : m.vs.take k = m.vs := List.take_of_length_le (by rw [← HL.out.1]; exact Nat.le_refl _)
          rw [htk] at hG
          obtain ⟨Av, cv, rfl, _, _⟩ := own_shape hG.own
          have e14 := rM.cell (j := 14) rfl
          have lp := rM.lt
          have HG4 := Lib.hid (And.intro hG (And.intro hbW hsz))
          clear rM rZ hV hH hBs hbW hbw hsz hG hk htk
          go_wp2_with fail
          clear e14 lp
          go_loopw [5, 45] (fun v i wr => ∃ (vd : Value) (q : Nat), vd = v ∧ i = .int .i64 (q : Int) ∧ q ≤ n' ∧ Gr w4.heap.size w4 wr vd (2 * q) (hitsL (m.hs.take q))) (fun v i _ => n' - (intOf i).toNat)
          case atStart => exact ⟨_, 0, rfl, rfl, Nat.zero_le _, World.ownsRow_nil .., Nat.le_refl _, Below.refl _ _⟩
          case round =>
            obtain ⟨vd, q, rfl, rfl, hq, hG⟩ := hrel
            have hbW : Below W.heap.size W wr := HG4.out.2.1.trans (hG.bel.mono HG4.out.2.2)
            obtain ⟨rM, rZ, hV, hH, hBs, hbw, hsz⟩ := KR.out wr hbW
            by_cases hlt : q < n'
            · have hltz : (q : Int) < (n' : Int) := by omega
              obtain ⟨ad, rfl, hab, hkl, hc0, hc1⟩ := hH.hit_at hlt
              have hadl : (ad.add (q * 2)).block < wr.heap.size := by rw [block_of_add]; omega
              have HTK := Lib.hid (show ivals (hitsL (m.hs.take (q + 1))) = ivals (hitsL (m.hs.take q)) ++ two (m.hs.getD q (0, 0)).1 (m.hs.getD q (0, 0)).2 by rw [hitsL_snoc m.hs hkl, ivals_two])
              generalize (m.hs.getD q (0, 0)).1 = X1 at *
              generalize (m.hs.getD q (0, 0)).2 = X2 at *
              obtain ⟨V, hVd⟩ : ∃ V, V = wr.alloc (.cells #[.int .i64 X1, .int .i64 X2] 52) := ⟨_, rfl⟩
              have hbV : Below wr.heap.size wr V.drew := by rw [hVd]; exact ((Below.refl _ wr).alloc (Nat.le_refl _) _).drew
              have rV : Row V wr.heap.size 52 [.int .i64 X1, .int .i64 X2] := by rw [hVd]; exact Row.new wr _ _
              have v0 := rV.cell (j := 0) rfl
              have v1 := rV.cell (j := 1) rfl
              have vl := rV.lt
              have HI := Lib.hid (Be.int_any X1 V.drew)
              have HI2 := Lib.hid (fun w' => Be.int_any X2 w')
              have HG := Lib.hid (hG.on hbV)
              have HVD := Lib.hid hVd
              obtain ⟨i0, hi, hz0, hz1, hz2⟩ := info_parts val_row
              have hq5 : q ≤ 1000 := by omega
              clear rM rZ hV hH hBs hbW hbw hsz hG hVd hbV rV hkl
              go_wp2_with fail
              rw [← HVD.out]
              go_region_law (first
                | (go_simp; go_at_call 37; refine HI.out.mono ?_; rintro e w5 ⟨rfl, hb5⟩; have x0 : w5.cell? ⟨wr.heap.size, 0, none⟩ = some (.int .i64 X1) := (hb5.cell (p := ⟨wr.heap.size, 0, none⟩) vl).trans v0; have x1 : w5.cell? ⟨wr.heap.size, 1, none⟩ = some (.int .i64 X2) := (hb5.cell (p := ⟨wr.heap.size, 1, none⟩) vl).trans v1; have xl : wr.heap.size < w5.heap.size := Nat.lt_of_lt_of_le vl hb5.size; have HG5 := Lib.hid (HG.out.on hb5); clear hb5 HI)
                | (go_simp; go_at_call 37; refine (HI2.out _).mono ?_; rintro e w6 ⟨rfl, hb6⟩; have HG6 := Lib.hid (HG5.out.on hb6); clear hb6 HI2)
                | (refine step_append_lies _ rfl (.tmp 49) (.tmp 56) 45 rfl w4.heap.size 47 i0 _ 4 56 Tryd.underlying45 hi hz0 hz1 hz2 rfl (by decide) vd (2 * q) (ivals (hitsL (m.hs.take q))) rfl (HG6.out.own.alloc _) ⟨w6.heap.size, 0, none⟩ 2 2 (two X1 X2) rfl rfl (news_cells w6 (two X1 X2).toArray 47) (two_one X1 X2) (by decide) (by unfold maxLen; omega) (by omega) (by have := HG6.out.le; simp; omega) _ rfl ?_; intro g cap w10 hown10 hg10 hlies hlt10; rw [← HTK.out] at hown10; have HN := Lib.hid (show Gr w4.heap.size w4 w10 (.slice (some ⟨g, 0, none⟩) (2 * q + 2) cap) (2 * (q + 1)) (hitsL (m.hs.take (q + 1))) from (HG6.out.on ((Below.refl _ w6).alloc (Nat.le_refl _) _)).step hown10 hg10); clear hown10 hg10 hlies hlt10))
              all_goals (
                go_wp2_with fail
                exact ⟨⟨_, q + 1, rfl, by go_num, hlt, HN.out⟩, by simp [intOf]; omega⟩)
            · obtain rfl : q = n' := by omega
              have hnl3 : ¬ (q : Int) < (q : Int) := by omega
              obtain ⟨w5, h5⟩ : ∃ w5, w5 = wr := ⟨_, rfl⟩
              subst h5
              have htq : m.hs.take q = m.hs := List.take_of_length_le (by rw [← HL.out.2]; exact Nat.le_refl _)
              rw [htq] at hG
              obtain ⟨Ah, ch, rfl, _, _⟩ := own_shape hG.own
              have hgl5 := (HG3.out.1.on HG4.out.1.bel).on hG.bel
              have hK : KS m w w1 w3 w4 A k c A' q c' va Av cv Ah ch w5.heap.size w5 := ⟨rM, rZ, hgl5, HG4.out.1.on hG.bel, hG, hbw, Nat.le_refl _, fun g e => hgl5.own.lt g e, by have := HX.out.2.2; have := HSW.out; have := HX.out.2.1.size; omega, by have := HSW.out; omega⟩
              have HK := Lib.hid hK
              have HL1 := Lib.hid (Be.list_any Av k cv _ (ivals m.vs) w5.drew (Be.ReadsP.of_own (keep_none hK.gv.own (show Below w5.heap.size w5 w5.drew from (Below.refl _ w5).drew))) (by omega) (ivals_one _))
              have HI1 := Lib.hid (fun w' => Be.int_any m.er w')
              have HI2 := Lib.hid (fun z w' => Be.int_any z w')
              have HL2 := Lib.hid (fun w' (h : KS m w w1 w3 w4 A k c A' q c' va Av cv Ah ch w5.heap.size w') => Be.list_any Ah (2 * q) ch _ (ivals (hitsL m.hs)) w' (Be.ReadsP.of_own h.gh.own) (by omega) (ivals_one _))
              obtain ⟨i0, hi, hz0, hz1, hz2⟩ := info_parts val_row
              clear rM rZ hV hH hBs hbW hbw hsz hG hK hgl5 htq
              cases hwa : m.wa with
              | true =>
                have y13 := HK.out.rM.cell (j := 13) rfl
                rw [hwa] at y13
                have yl := HK.out.rM.lt
                have HWA := Lib.hid (show (1 : Int) = b2i m.wa by rw [hwa]; rfl)
                clear hwa
                go_wp2_with fail
                have y12 : w5.cell? ⟨w.heap.size, 12, none⟩ = some (.int .i64 m.er) := HK.out.rM.cell (j := 12) rfl
                clear y13
                go_region_law (first
                  | (go_simp; go_at_call 38; refine HL1.out.mono ?_; rintro e w6 ⟨v6, rfl, hown6, hb6⟩; obtain ⟨A6, c6, rfl, hk6, hm6⟩ := own_shape hown6; have hK6 := HK.out.on (show Below w5.heap.size w5 w6 from (Below.refl _ w5).drew.trans hb6); have y12' := hK6.rM.cell (j := 12) rfl; have yl' := hK6.rM.lt; have HK6 := Lib.hid (And.intro hK6 (And.intro ((ReadsP.of_own hown6).mono (ok' := fun b => w5.heap.size ≤ b) (fun b hb _ => by simp at hb; omega)) (And.intro hk6 hm6))); clear hK6 hown6 hk6 hm6 hb6 HL1)
                  | (go_simp; go_at_call 37; refine (HI1.out w6).mono ?_; rintro e w7 ⟨rfl, hb7⟩; have HK7 := Lib.hid (And.intro (HK6.out.1.on hb7) (HK6.out.2.1.keep (Keeps.of_below hb7 (fun b _ h => h)))); clear hb7 HI1)
                  | (go_simp; go_at_call 37; refine (HI2.out _ w7).mono ?_; rintro e w8 ⟨rfl, hb8⟩; have HK8 := Lib.hid (And.intro (HK7.out.1.on hb8) (HK7.out.2.keep (Keeps.of_below hb8 (fun b _ h => h)))); clear hb8 HI2)
                  | (go_simp; go_at_call 38; refine (HL2.out w8 HK8.out.1).mono ?_; rintro e w9 ⟨v9, rfl, hown9, hb9⟩; obtain ⟨A9, c9, rfl, hk9, hm9⟩ := own_shape hown9; have HK9 := Lib.hid (And.intro (HK8.out.1.on hb9) (And.intro (HK8.out.2.keep (Keeps.of_below hb9 (fun b _ h => h))) (And.intro ((ReadsP.of_own hown9).mono (ok' := fun b => w5.heap.size ≤ b) (fun b hb _ => by have := HK8.out.1.ge; omega)) (And.intro hk9 hm9)))); clear hown9 hb9 hk9 hm9 HL2)
                  | (refine step_append_lies _ rfl (.tmp 62) (.tmp 73) 45 rfl w1.heap.size 47 i0 _ 4 56 Tryd.underlying45 hi hz0 hz1 hz2 rfl (by decide) va 11 (ivals (headI m)) rfl (HK9.out.1.gl.own.alloc _) ⟨w9.heap.size, 0, none⟩ 4 4 (tailV m 1 A6 k c6 A9 (2 * q) c9) rfl rfl (news_cells w9 (tailV m 1 A6 k c6 A9 (2 * q) c9).toArray 47) (tailV_one m 1 A6 k c6 A9 (2 * q) c9) (by decide) (by unfold maxLen; omega) (by omega) (by have := HK9.out.1.gl.le; simp; omega) _ rfl ?_; intro g cap w10 hown10 hg10 hlies hlt10; have HN := Lib.hid (HK9.out.1.fin HWA.out HK9.out.2.1 HK6.out.2.2.1 HK6.out.2.2.2 HK9.out.2.2.1 HK9.out.2.2.2.1 HK9.out.2.2.2.2 HL.out.1 HL.out.2 hown10 hg10); have HL3 := Lib.hid (Be.list_any (some ⟨g, 0, none⟩) 15 cap (fun _ => True) _ w10 HN.out.rp (by omega) (items_one m A6 k c6 A9 (2 * q) c9)); clear hown10 hg10 hlies hlt10)
                  | (go_simp; go_at_call 38; refine HL3.out.mono ?_; rintro e w11 ⟨v11, rfl, hown11, hb11⟩; obtain ⟨A11, c11, rfl, hk11, hm11⟩ := own_shape hown11; have hF := HN.out.fin hown11 hk11 hm11 hb11; have HFIN := Lib.hid hF; have g0 := hF.rZ.cell (j := 0) rfl; have g1 := hF.rZ.cell (j := 1) rfl; have g2 := hF.rZ.cell (j := 2) rfl; have g3 := hF.rZ.cell (j := 3) rfl; have z0 := hF.rZ.frozen 0; have z1 := hF.rZ.frozen 1; have z2 := hF.rZ.frozen 2; have z3 := hF.rZ.frozen 3; have gl := hF.rZ.lt; clear hF hown11 hk11 hm11 hb11 HL3))
                all_goals (
                  go_wp2_with fail
                  have rs := (((HFIN.out.rZ.set 0 (.int .i64 3)).set 1 (.int .i64 0)).set 2 (.string ⟨#[]⟩)).set 3 (.slice A11 15 c11)
                  have s0 := rs.cell (j := 0) rfl
                  have s1 := rs.cell (j := 1) rfl
                  have s2 := rs.cell (j := 2) rfl
                  have s3 := rs.cell (j := 3) rfl
                  refine bodyPost_ret (v := .agg #[.int .i64 3, .int .i64 0, .string ⟨#[]⟩, .slice A11 15 c11]) (by simp [results, Tryd.results18, go_sem, s0, s1, s2, s3]) rfl ⟨_, rfl, HFIN.out.done _ _ _ _⟩)
              | false =>
                have y13 := HK.out.rM.cell (j := 13) rfl
                rw [hwa] at y13
                have yl := HK.out.rM.lt
                have HWA := Lib.hid (show (0 : Int) = b2i m.wa by rw [hwa]; rfl)
                clear hwa
                go_wp2_with fail
                have y12 : w5.cell? ⟨w.heap.size, 12, none⟩ = some (.int .i64 m.er) := HK.out.rM.cell (j := 12) rfl
                clear y13
                go_region_law (first
                  | (go_simp; go_at_call 38; refine HL1.out.mono ?_; rintro e w6 ⟨v6, rfl, hown6, hb6⟩; obtain ⟨A6, c6, rfl, hk6, hm6⟩ := own_shape hown6; have hK6 := HK.out.on (show Below w5.heap.size w5 w6 from (Below.refl _ w5).drew.trans hb6); have y12' := hK6.rM.cell (j := 12) rfl; have yl' := hK6.rM.lt; have HK6 := Lib.hid (And.intro hK6 (And.intro ((ReadsP.of_own hown6).mono (ok' := fun b => w5.heap.size ≤ b) (fun b hb _ => by simp at hb; omega)) (And.intro hk6 hm6))); clear hK6 hown6 hk6 hm6 hb6 HL1)
                  | (go_simp; go_at_call 37; refine (HI1.out w6).mono ?_; rintro e w7 ⟨rfl, hb7⟩; have HK7 := Lib.hid (And.intro (HK6.out.1.on hb7) (HK6.out.2.1.keep (Keeps.of_below hb7 (fun b _ h => h)))); clear hb7 HI1)
                  | (go_simp; go_at_call 37; refine (HI2.out _ w7).mono ?_; rintro e w8 ⟨rfl, hb8⟩; have HK8 := Lib.hid (And.intro (HK7.out.1.on hb8) (HK7.out.2.keep (Keeps.of_below hb8 (fun b _ h => h)))); clear hb8 HI2)
                  | (go_simp; go_at_call 38; refine (HL2.out w8 HK8.out.1).mono ?_; rintro e w9 ⟨v9, rfl, hown9, hb9⟩; obtain ⟨A9, c9, rfl, hk9, hm9⟩ := own_shape hown9; have HK9 := Lib.hid (And.intro (HK8.out.1.on hb9) (And.intro (HK8.out.2.keep (Keeps.of_below hb9 (fun b _ h => h))) (And.intro ((ReadsP.of_own hown9).mono (ok' := fun b => w5.heap.size ≤ b) (fun b hb _ => by have := HK8.out.1.ge; omega)) (And.intro hk9 hm9)))); clear hown9 hb9 hk9 hm9 HL2)
                  | (refine step_append_lies _ rfl (.tmp 62) (.tmp 73) 45 rfl w1.heap.size 47 i0 _ 4 56 Tryd.underlying45 hi hz0 hz1 hz2 rfl (by decide) va 11 (ivals (headI m)) rfl (HK9.out.1.gl.own.alloc _) ⟨w9.heap.size, 0, none⟩ 4 4 (tailV m 0 A6 k c6 A9 (2 * q) c9) rfl rfl (news_cells w9 (tailV m 0 A6 k c6 A9 (2 * q) c9).toArray 47) (tailV_one m 0 A6 k c6 A9 (2 * q) c9) (by decide) (by unfold maxLen; omega) (by omega) (by have := HK9.out.1.gl.le; simp; omega) _ rfl ?_; intro g cap w10 hown10 hg10 hlies hlt10; have HN := Lib.hid (HK9.out.1.fin HWA.out HK9.out.2.1 HK6.out.2.2.1 HK6.out.2.2.2 HK9.out.2.2.1 HK9.out.2.2.2.1 HK9.out.2.2.2.2 HL.out.1 HL.out.2 hown10 hg10); have HL3 := Lib.hid (Be.list_any (some ⟨g, 0, none⟩) 15 cap (fun _ => True) _ w10 HN.out.rp (by omega) (items_one m A6 k c6 A9 (2 * q) c9)); clear hown10 hg10 hlies hlt10)
                  | (go_simp; go_at_call 38; refine HL3.out.mono ?_; rintro e w11 ⟨v11, rfl, hown11, hb11⟩; obtain ⟨A11, c11, rfl, hk11, hm11⟩ := own_shape hown11; have hF := HN.out.fin hown11 hk11 hm11 hb11; have HFIN := Lib.hid hF; have g0 := hF.rZ.cell (j := 0) rfl; have g1 := hF.rZ.cell (j := 1) rfl; have g2 := hF.rZ.cell (j := 2) rfl; have g3 := hF.rZ.cell (j := 3) rfl; have z0 := hF.rZ.frozen 0; have z1 := hF.rZ.frozen 1; have z2 := hF.rZ.frozen 2; have z3 := hF.rZ.frozen 3; have gl := hF.rZ.lt; clear hF hown11 hk11 hm11 hb11 HL3))
                all_goals (
                  go_wp2_with fail
                  have rs := (((HFIN.out.rZ.set 0 (.int .i64 3)).set 1 (.int .i64 0)).set 2 (.string ⟨#[]⟩)).set 3 (.slice A11 15 c11)
                  have s0 := rs.cell (j := 0) rfl
                  have s1 := rs.cell (j := 1) rfl
                  have s2 := rs.cell (j := 2) rfl
                  have s3 := rs.cell (j := 3) rfl
                  refine bodyPost_ret (v := .agg #[.int .i64 3, .int .i64 0, .string ⟨#[]⟩, .slice A11 15 c11]) (by simp [results, Tryd.results18, go_sem, s0, s1, s2, s3]) rfl ⟨_, rfl, HFIN.out.done _ _ _ _⟩)
end Go.Proofs.YtcbkgcnajplagaaDoor.Po
