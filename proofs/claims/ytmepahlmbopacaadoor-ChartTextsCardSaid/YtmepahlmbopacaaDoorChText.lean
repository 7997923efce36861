/- What Text of package chart returns. Conditions: the chart's nodes read as a list; Go's table of powers of ten lies below. -/
import Derived.Test.YtmepahlmbopacaaDoorChTxM
set_option linter.unusedVariables false
set_option linter.unusedSimpArgs false
set_option maxRecDepth 100000
namespace Go.Proofs.YtmepahlmbopacaaDoor.Ct
open Go Go.RowKit
open Be (T enc encL kindsOk kindsOkL deepT deepL wfT wfL tidy tidyL onlyRes takeRes gdT numT numL RdL Rd RdA ReadsP Keeps)
def vcell (n : Int) : List Value := [.int .i64 1, .int .i64 n, .string ⟨#[]⟩, .slice none 0 0]
def ivals (l : List Int) : List Value := l.flatMap vcell
theorem ivals_len (l : List Int) : (ivals l).length = l.length * 4 := by
  induction l with
  | nil => rfl
  | cons x r ih =>
    have : ivals (x :: r) = vcell x ++ ivals r := rfl
    rw [this, List.length_append, ih, List.length_cons]
    simp [vcell]
    omega
theorem ivals_snoc (l : List Int) (x : Int) : ivals (l ++ [x]) = ivals l ++ vcell x := by simp [ivals]
theorem ivals_one : ∀ (l : List Int), ∀ u ∈ ivals l, u.oneCell' = true
  | x :: r, u, hu => by
    have e : ivals (x :: r) = vcell x ++ ivals r := rfl
    rw [e] at hu
    rcases List.mem_append.1 hu with hu | hu
    · simp [vcell] at hu
      rcases hu with rfl | rfl | rfl | rfl <;> rfl
    · exact ivals_one r u hu
theorem rd_cN (n : Int) (w : World) (ok : Nat → Prop) : Rd ok w (cN n) (vcell n) := ⟨none, 0, [], rfl, by simp [maxLen], by simp, by simp [maxLen], ReadsP.none_, rfl⟩
theorem rdl_cN (w : World) (ok : Nat → Prop) : ∀ l : List Int, RdL ok w (l.map cN) (ivals l)
  | [] => rfl
  | x :: r => ⟨vcell x, ivals r, rfl, rd_cN x w ok, rdl_cN w ok r⟩
theorem reads_newP {w : World} {Ty : TypeId} {xs : List Value} {n size : Nat} {ok : Nat → Prop} (hok : ok w.heap.size) (hl : xs.length = n * size) : ReadsP ok (w.alloc (.cells xs.toArray Ty)) size (some ⟨w.heap.size, 0, none⟩) n xs := by
  have hr := Row.new w Ty xs
  exact ⟨hl, fun _ => ⟨_, rfl, hok, by simp, hr.frozen 0, fun j u hj => by rw [add_flat, Nat.zero_add]; exact hr.cell hj⟩⟩
def txS (e : Int) (l : List Int) : ByteArray := if mayC e l = true then textB e l else ⟨#[]⟩
def cval (e : Int) (A : Option Addr) (n c : Nat) : List Value := vcell e ++ [.int .i64 3, .int .i64 0, .string ⟨#[]⟩, .slice A n c]
theorem cval_one (e : Int) (A : Option Addr) (n c : Nat) : ∀ u ∈ cval e A n c, u.oneCell' = true := fun u hu => by
  simp [cval, vcell] at hu
  rcases hu with rfl | rfl | rfl | rfl | rfl | rfl | rfl | rfl <;> rfl
theorem rdl_cval {ok : Nat → Prop} {w : World} (e : Int) {l : List Int} {A : Option Addr} {n c : Nat} (hn : n = l.length) (hnc : n ≤ c) (hc : c ≤ maxLen) (h : ReadsP ok w 4 A n (ivals l)) : RdL ok w [cN e, cL l] (cval e A n c) := by
  subst hn
  refine ⟨vcell e, _, rfl, rd_cN e w ok, ⟨[.int .i64 3, .int .i64 0, .string ⟨#[]⟩, .slice A l.length c], [], rfl, ?_, rfl⟩⟩
  have e1 : (l.map cN).length = l.length := by simp
  exact ⟨A, c, ivals l, by rw [e1]; rfl, by simp [maxLen], by rw [e1]; exact hnc, hc, by rw [e1]; exact h, rdl_cN w ok l⟩
set_option maxHeartbeats 8000000 in
theorem ctext_any {w : World} {B : Nat} {A : Option Addr} {n c : Nat} {l : List Int} (e : Int) (hR : Reads w B 1 A n (ints l)) (hB : B ≤ w.heap.size) (hT : Be.Tabs w w.heap.size) :
    Calls Tryd.prog 15 #[.agg #[.int .i64 e, .slice A n c]] w (Gives (.tuple #[.string (txS e l), .int .i64 (if mayC e l = true then 0 else 1)]) w) := by
  have hln := hR.len
  obtain ⟨W, hW⟩ : ∃ W, W = w.alloc (.cells #[.int .i64 e, .slice A n c] 24) := ⟨_, rfl⟩
  have hB0 : Below w.heap.size w W := by rw [hW]; exact (Below.refl _ w).alloc (Nat.le_refl _) _
  have r0 : Row W w.heap.size 24 [.int .i64 e, .slice A n c] := by rw [hW]; exact Row.new w 24 [.int .i64 e, .slice A n c]
  have h1 := (hR.more hB).below hB0
  have HC := Lib.hid (check_any (c := c) e h1 hB0.size)
  have KR := Lib.hid (fun w1 (hb : Below W.heap.size W w1) => show w1.cell? ⟨w.heap.size, 0, none⟩ = some (.int .i64 e) ∧ w1.cell? ⟨w.heap.size, 1, none⟩ = some (.slice A n c) ∧ w.heap.size < w1.heap.size ∧ Reads w1 w.heap.size 1 A n (ints l) ∧ Below w.heap.size w w1 from
    ⟨(r0.keep (hb.block _ r0.lt)).cell (j := 0) rfl, (r0.keep (hb.block _ r0.lt)).cell (j := 1) rfl, (r0.keep (hb.block _ r0.lt)).lt, h1.below (hb.mono hB0.size), hB0.trans (hb.mono hB0.size)⟩)
  have HW := Lib.hid hW
  have HB0 := Lib.hid hB0
  have HL := Lib.hid hln
  have HT := Lib.hid hT
  clear hR hB hB0 r0 hW hT h1 hln
  unfold txS
  cases hmc : mayC e l with
  | false =>
    rw [hmc, okV_f] at HC
    clear hmc
    go_enter Tryd.func15, Tryd.ntmps15
    go_wp2_with fail
    rw [← HW.out]
    refine HC.out.mono ?_
    rintro en w1 ⟨rfl, hb1⟩
    have HB1 := Lib.hid (HB0.out.trans (hb1.mono HB0.out.size))
    clear hb1
    go_wp2_with fail
    go_ret2
    exact ⟨rfl, HB1.out⟩
  | true =>
    rw [hmc, okV_t] at HC
    have HM := Lib.hid hmc
    have hl16 := (mayC_iff.1 hmc).2.1.2
    have hn16 : n ≤ 16 := by have := HL.out; omega
    clear hmc
    go_enter Tryd.func15, Tryd.ntmps15
    go_wp2_with fail
    rw [← HW.out]
    refine HC.out.mono ?_
    rintro en w1 ⟨rfl, hb1⟩
    obtain ⟨x0, x1, xl, _, _⟩ := KR.out w1 hb1
    have HB1 := Lib.hid hb1
    clear hb1
    go_wp2_with fail
    go_loopw [5, 16] (fun v i wr => ∃ (va : Value) (k : Nat), va = v ∧ i = .int .i64 (k : Int) ∧ k ≤ n ∧ wr.ownsRow w1.heap.size 60 4 va k (ivals (l.take k)) ∧ Below w1.heap.size w1 wr) (fun _ i _ => n - (intOf i).toNat)
    case atStart => exact ⟨_, 0, rfl, rfl, Nat.zero_le _, World.ownsRow_nil .., Below.refl _ _⟩
    case round =>
      obtain ⟨va, k, rfl, rfl, hk, hown, hb⟩ := hrel
      have hbW := HB1.out.trans (hb.mono HB1.out.size)
      clear x0 x1 xl
      obtain ⟨x0, x1, xl, hRr, _⟩ := KR.out wr hbW
      by_cases hlt : k < n
      · have hltz : (k : Int) < (n : Int) := by omega
        obtain ⟨ad, rfl, hab, hc⟩ := hRr.int_at hlt
        have hadl : (ad.add k).block < wr.heap.size := by rw [block_of_add]; omega
        have htk := take_snoc l k (by have := HL.out; omega)
        have HTK := Lib.hid (show ivals (l.take (k + 1)) = ivals (l.take k) ++ vcell (l.getD k 0) by rw [htk, ivals_snoc])
        have HI := Lib.hid (Be.int_any (l.getD k 0) wr)
        have HO := Lib.hid (And.intro hown hb)
        have hws := hb.size
        clear hown hb hbW hRr htk
        generalize l.getD k 0 = x at *
        go_wp2_with fail
        refine HI.out.mono ?_
        rintro en w2 ⟨rfl, hb2⟩
        have hown2 := keep_none HO.out.1 hb2
        have hbx := HO.out.2.trans (hb2.mono hws)
        have HO2 := Lib.hid (And.intro hown2 hbx)
        have hs2 : w1.heap.size ≤ w2.heap.size := hbx.size
        clear hown2 hbx hb2 hc hadl
        go_wp2_with (at_builtin; refine Be.append_value rfl (.tmp 20) (.tmp 23) rfl w1.heap.size va k (ivals (l.take k)) _ _ _ _ (by intro u hu; simp at hu; rcases hu with rfl | rfl | rfl | rfl <;> rfl) rfl HO2.out.1 rfl (by omega) hs2 ?_; intro v' w3 hown3 hgr3 _)
        exact ⟨⟨_, k + 1, rfl, by go_num, hlt, by rw [HTK.out]; exact hown3, own_grown HO2.out.2 HO2.out.1 hgr3 hs2⟩, by simp [intOf]; omega⟩
      · obtain rfl : k = n := by omega
        have hnl : ¬ (k : Int) < (k : Int) := by omega
        rw [List.take_of_length_le (by rw [HL.out]; exact Nat.le_refl _)] at hown
        obtain ⟨A1, c1, rfl, _, _⟩ := own_shape hown
        have HO := Lib.hid (And.intro hown (And.intro hb hbW))
        have HI := Lib.hid (Be.int_any e wr)
        clear hown hb hbW hRr
        go_wp2_with fail
        refine HI.out.mono ?_
        rintro en w2 ⟨rfl, hb2⟩
        have hown2 := keep_none HO.out.1 hb2
        have HO2 := Lib.hid (HO.out.2.2.trans (hb2.mono HO.out.2.2.size))
        have HLI := Lib.hid (Be.list_any A1 k c1 (fun b => True) (ivals l) w2 ((Be.ReadsP.of_own hown2).mono (fun b _ _ => trivial)) (by omega) (ivals_one l))
        clear hb2 hown2 HO HI
        go_wp2_with fail
        refine HLI.out.mono ?_
        rintro en w3 ⟨v3, rfl, hown3, hb3⟩
        obtain ⟨A3, c3, rfl, hk3, hm3⟩ := own_shape hown3
        obtain ⟨U, hU⟩ : ∃ U, U = w3.alloc (.cells #[.int .i64 1, .int .i64 e, .string ⟨#[]⟩, .slice none 0 0, .int .i64 3, .int .i64 0, .string ⟨#[]⟩, .slice A3 k c3] 60) := ⟨_, rfl⟩
        have hb3U : Below w3.heap.size w3 U := by rw [hU]; exact (Below.refl _ w3).alloc (Nat.le_refl _) _
        have hRP : ReadsP (fun b => True) U 4 (some ⟨w3.heap.size, 0, none⟩) 2 (cval e A3 k c3) := by rw [hU]; exact reads_newP (xs := cval e A3 k c3) (n := 2) trivial rfl
        have HL2 : Hid (Calls Tryd.prog 31 #[.slice (some ⟨w3.heap.size, 0, none⟩) 2 2] U _) := Lib.hid (Be.list_any (some ⟨w3.heap.size, 0, none⟩) 2 2 (fun b => True) (cval e A3 k c3) U hRP (by omega) (cval_one e A3 k c3))
        have HU := Lib.hid hU
        have HX := Lib.hid (And.intro (Be.ReadsP.of_own hown3) (And.intro (HO2.out.trans (hb3.mono HO2.out.size)) (And.intro hb3U (And.intro hk3 hm3))))
        clear hb3 hown3 hU hb3U hRP HLI HO2 hk3 hm3
        go_wp2_with fail
        rw [← HU.out]
        refine HL2.out.mono ?_
        rintro en w5 ⟨v5, rfl, hown5, hb5⟩
        obtain ⟨A5, c5, rfl, hk5, hm5⟩ := own_shape hown5
        have hb35 := HX.out.2.2.1.trans (hb5.mono HX.out.2.2.1.size)
        have hbw := HX.out.2.1.trans (hb35.mono HX.out.2.1.size)
        have hwn := hbw.size
        have hRA : RdA (fun b => b < w5.heap.size) w5 (textC e l) (.agg #[.int .i64 3, .int .i64 0, .string ⟨#[]⟩, .slice A5 2 c5]) := by
          refine ⟨A5, c5, cval e A3 k c3, rfl, by simp [textC, Be.T.s, maxLen], hk5, hm5, (Be.ReadsP.of_own hown5).mono (fun b _ hl => hl), rdl_cval e HL.out HX.out.2.2.2.1 HX.out.2.2.2.2 ?_⟩
          exact ((HX.out.1.mono (ok' := fun b => b < w3.heap.size) (fun b _ hl => hl)).keep (Keeps.of_below hb35 (fun b hb _ => hb))).mono (fun b _ hl => hl)
        obtain ⟨a1, a2, a3, a4, a5, a6⟩ := text_facts HM.out
        have hb0w : Below w.heap.size w w5 := HB0.out.trans (hbw.mono HB0.out.size)
        have HP := Lib.hid (Be.put_ok (textC e l) _ w5 hRA a3 (text_gd HM.out) ((HT.out.on hb0w).up hb0w.size))
        have HBW := Lib.hid hb0w
        clear hown5 hb5 hk5 hm5 hb35 hbw hwn hRA a1 a2 a3 a4 a5 a6 hb0w HL2 HX
        go_wp2_with fail
        refine HP.out.mono ?_
        rintro en w6 ⟨rfl, hb6⟩
        go_wp2_with fail
        go_ret2
        exact ⟨rfl, below_then HBW.out hb6⟩
end Go.Proofs.YtmepahlmbopacaaDoor.Ct
