/- What Put and Top of the document's tree return. Conditions: the tree, the point, the vector lie in memory. -/
import Derived.Test.YtkgapieikgniiaaVDocB
set_option linter.unusedVariables false
set_option linter.unusedSimpArgs false
namespace Go.Proofs.Ytkgapieikgniiaa
open Go Go.RowKit Go.Maps
theorem rput_any {w : World} {P : Nat → Prop} {A : Option Addr} {c dim : Nat} {l : List Pt} (h : DocW w P A c l) (hr : Rise (l.map bareP)) (hl : l.length ≤ 512) {p : Pt} (hp : PtIn w P p) :
    Calls Try.prog 18 #[.agg #[.int .i64 (dim : Int), .slice A l.length c], .agg #[.int .i64 p.1, .slice p.2.1.1 p.2.1.2.1 p.2.1.2.2]] w (RPutPost P dim l p.1 p.2.2 w) := by
  by_cases hck : ck p.2.2 dim = 0
  · by_cases hroom : hasT p.1 (l.map bareP) = true ∨ (l.map bareP).length < 512
    · exact rput_yes h hr hl hp hck hroom
    · refine rput_no h hr hl hp (.inr ⟨hck, ?_, ?_⟩)
      · cases hh : hasT p.1 (l.map bareP) with
        | true => exact absurd (.inl hh) hroom
        | false => rfl
      · have : ¬ (l.map bareP).length < 512 := fun h => hroom (.inr h)
        simpa using this
  · exact rput_no h hr hl hp (.inl hck)
theorem same_hit : ∀ {L : List Hit}, L.Pairwise (fun p q => p.1 ≠ q.1) → ∀ x ∈ L, ∀ y ∈ L, x.1 = y.1 → x = y
  | [], _, x, hx, _, _, _ => by simp at hx
  | z :: r, hL, x, hx, y, hy, hxy => by
    obtain ⟨k1, k2⟩ := List.pairwise_cons.1 hL
    rcases List.mem_cons.1 hx with ex | hx
    · rcases List.mem_cons.1 hy with ey | hy
      · rw [ex, ey]
      · exact absurd (by rw [← ex]; exact hxy) (k1 y hy)
    · rcases List.mem_cons.1 hy with ey | hy
      · exact absurd (by rw [← ey]; exact hxy.symm) (k1 x hx)
      · exact same_hit k2 x hx y hy hxy
theorem topR_srt {L : List Hit} (h : L.Pairwise fun p q => p.1 ≠ q.1) : TopR L (srtH L) := by
  have hp := srtH_self L
  have hd : (srtH L).Pairwise fun p q => p.1 ≠ q.1 := (hp.pairwise_iff (fun h e => h e.symm)).2 h
  refine ⟨(hd.and (srtH_ord L)).imp (fun {a b} hab => ?_), fun x => ?_⟩
  · cases hc : hlt a b with
    | true => rfl
    | false => exact absurd (congrArg Prod.fst (hlt_total hc hab.2)) hab.1
  · rw [hp.mem_iff]
    unfold Best
    refine ⟨fun hx => ⟨hx, fun y hy he => ?_⟩, fun hx => hx.1⟩
    rw [same_hit h y hy x hx he]
    exact hlt_irrefl _
/-- Those that are not too far. -/
def nearL (v : List Int) (lim : Int) (l : List Pt) : List Pt := l.filter fun p => decide (far p.2.2 v ≤ lim)
theorem nearL_hs (v : List Int) (lim : Int) : ∀ l : List Pt, hsOf v (nearL v lim l) = nearH v lim (l.map bareP)
  | [] => rfl
  | p :: r => by
    have ih := nearL_hs v lim r
    unfold nearL hsOf nearH at *
    rw [List.filter_cons, List.map_cons, List.map_cons, List.filter_cons]
    by_cases h : far p.2.2 v ≤ lim
    · have h1 : decide (far p.2.2 v ≤ lim) = true := decide_eq_true h
      have h2 : decide (((bareP p).1, far (bareP p).2 v).2 ≤ lim) = true := h1
      rw [if_pos h1, if_pos h2, List.map_cons, ih]
      rfl
    · have h1 : decide (far p.2.2 v ≤ lim) = false := decide_eq_false h
      have h2 : decide (((bareP p).1, far (bareP p).2 v).2 ≤ lim) = false := h1
      rw [h1, h2, if_neg (by simp), if_neg (by simp), ih]
theorem nearL_snoc {v : List Int} {lim : Int} {l : List Pt} {i : Nat} (hi : i < l.length) : nearL v lim (l.take (i + 1)) = nearL v lim (l.take i) ++ (if far (ptAt l i).2.2 v ≤ lim then [ptAt l i] else []) := by
  rw [take_pt hi]
  unfold nearL
  rw [List.filter_append]
  congr 1
  rw [List.filter_cons]
  by_cases h : far (ptAt l i).2.2 v ≤ lim
  · rw [if_pos h, if_pos (decide_eq_true h)]
    rfl
  · rw [if_neg h, if_neg (by simp [h])]
    rfl
theorem nearH_ids {T : List Pnt} (h : Rise T) (v : List Int) (lim : Int) : (nearH v lim T).Pairwise fun p q => p.1 ≠ q.1 := by
  unfold nearH
  refine List.Pairwise.filter _ (List.pairwise_map.2 (h.imp (fun {a b} h e => ?_)))
  have e : a.1 = b.1 := e
  omega
/-- What Top says. -/
def topX (T : List Pnt) (dim : Nat) (v : List Int) (k lim : Int) : List Hit := if ck v dim = 0 then (if 1 ≤ k ∧ k ≤ 64 then topH T v k.toNat lim else []) else []
def topE (dim : Nat) (v : List Int) (k : Int) : Int := if ck v dim = 0 then (if 1 ≤ k ∧ k ≤ 64 then 0 else 51) else 50
def TopXPost (T : List Pnt) (dim : Nat) (v : List Int) (k lim : Int) (w : World) (e : Ending) (w' : World) : Prop :=
  ∃ A m c, e = .returned (.tuple #[.slice A m c, .int .i64 (topE dim v k)]) ∧ Reads w' w'.heap.size 2 A m (hits (topX T dim v k lim)) ∧ m ≤ maxLen ∧ Below w.heap.size w w' ∧ ∀ ad, A = some ad → 0 < m → w.heap.size ≤ ad.block
theorem t_top2 {w : World} {F : Nat → Prop} {t dim : Nat} {T : List Pnt} (h : Tree w F t dim T) {A : Option Addr} {n c C k : Nat} {vec : List Int} (hR : Reads w C 1 A n (ints vec)) (hC : C ≤ w.heap.size) (hn : n ≤ maxLen) (lim : Int) (hk : ck vec dim = 0) (hk1 : 1 ≤ k) (hk2 : k ≤ 64) :
    Calls Try.prog 21 #[.pointer (some ⟨t, 0, none⟩), .slice A n c, .int .i64 (k : Int), .int .i64 lim] w (TopPost2 T vec k lim w) := by
  obtain ⟨⟨bm, fm, rv, N, B, U, hm, hp⟩, hr⟩ := h
  exact top_any2 hm (hR.more hC) hn lim hk hk1 hk2 hp
theorem t_top_all {w : World} {F : Nat → Prop} {t dim : Nat} {T : List Pnt} (h : Tree w F t dim T) {A : Option Addr} {n c C : Nat} {vec : List Int} (hR : Reads w C 1 A n (ints vec)) (hC : C ≤ w.heap.size) (hn : n ≤ maxLen) (k lim : Int) :
    Calls Try.prog 21 #[.pointer (some ⟨t, 0, none⟩), .slice A n c, .int .i64 k, .int .i64 lim] w (TopXPost T dim vec k lim w) := by
  by_cases hck : ck vec dim = 0
  · by_cases hk : 1 ≤ k ∧ k ≤ 64
    · obtain ⟨kn, rfl⟩ := Int.eq_ofNat_of_zero_le (show 0 ≤ k by omega)
      refine (t_top2 h hR hC hn lim hck (k := kn) (by omega) (by omega)).mono ?_
      rintro e w' ⟨A', m, rfl, hR', hm, hb, hfr⟩
      refine ⟨A', m, m, ?_, ?_, by unfold maxLen; omega, hb, hfr⟩
      · unfold topE
        rw [if_pos hck, if_pos hk]
      · unfold topX
        rw [if_pos hck, if_pos hk]
        exact hR'
    · refine (t_top_k h hR hC hn k lim hck (by omega)).mono ?_
      rintro e w' ⟨rfl, hb⟩
      refine ⟨none, 0, 0, ?_, ?_, by decide, hb, fun ad e => by cases e⟩
      · unfold topE
        rw [if_pos hck, if_neg hk]
      · unfold topX
        rw [if_pos hck, if_neg hk]
        exact Reads.none_
  · refine (t_top_bad h hR hC hn k lim ((ck_or _ _).resolve_left hck)).mono ?_
    rintro e w' ⟨rfl, hb⟩
    refine ⟨none, 0, 0, ?_, ?_, by decide, hb, fun ad e => by cases e⟩
    · unfold topE
      rw [if_neg hck]
    · unfold topX
      rw [if_neg hck]
      exact Reads.none_
set_option maxHeartbeats 8000000 in
set_option maxRecDepth 100000 in
theorem rtop8_any {w : World} {P : Nat → Prop} {A : Option Addr} {c dim : Nat} {l : List Pt} (h : DocW w P A c l) (hr : Rise (l.map bareP)) (hl : l.length ≤ 512) (hok : ∀ p ∈ l, okV p.2.2 = true ∧ p.2.2.length = dim) {A' : Option Addr} {n' c' : Nat} {vec : List Int} (hv : Reads w w.heap.size 1 A' n' (ints vec)) (hm' : n' ≤ maxLen) (k lim : Int) :
    Calls Try.prog 20 #[.agg #[.int .i64 (dim : Int), .slice A l.length c], .slice A' n' c', .int .i64 k, .int .i64 lim] w (TopXPost (l.map bareP) dim vec k lim w) := by
  obtain ⟨W, hW⟩ : ∃ W, W = w.alloc (.cells #[.int .i64 (dim : Int), .slice A l.length c] 29) := ⟨_, rfl⟩
  have hb0 : Below w.heap.size w W := by rw [hW]; exact (Below.refl _ w).alloc (Nat.le_refl _) _
  have s0 : W.heap.size = w.heap.size + 1 := by rw [hW]; simp
  have hrow : Row W w.heap.size 29 [.int .i64 (dim : Int), .slice A l.length c] := by rw [hW]; exact Row.new w _ [.int .i64 (dim : Int), .slice A l.length c]
  have hck := rcheck_any A' n' c' w.heap.size vec (dim : Int) W (hv.below hb0) hm'
  have HW := Lib.hid hW.symm
  have y0 := hrow.cell (j := 0) rfl
  have y1 := hrow.cell (j := 1) rfl
  have yl := hrow.lt
  have HB := Lib.hid (And.intro hb0 (And.intro s0 hrow))
  have H := Lib.hid (And.intro h (And.intro hr (And.intro hok hv)))
  have HM := Lib.hid hm'
  clear hW hb0 s0 hrow h hr hok hv hm'
  by_cases hk0 : ck vec dim = 0
  · rw [hk0] at hck
    have HK := Lib.hid hk0
    clear hk0
    obtain ⟨n, hn⟩ : ∃ n, n = l.length := ⟨_, rfl⟩
    rw [← hn] at hl y1 ⊢
    have HN := Lib.hid hn
    clear hn
    go_enter Try.func20, Try.ntmps20
    go_wp2_with fail
    rw [HN.out, HW.out, ← HN.out]
    refine hck.mono ?_
    rintro e w1 ⟨rfl, q, rfl⟩
    clear hck
    have hB1 : Below W.heap.size W (W.drewN q) := below_drewN (Below.refl _ W) q
    have HB1 := Lib.hid hB1
    clear hB1
    go_wp2_with fail
    go_loopw [11, 12] (fun vv vi wr => ∃ i : Nat, i ≤ n ∧ vi = .int .i64 i ∧ Hid (wr.ownsRow W.heap.size 37 2 vv (nearL vec lim (l.take i)).length (pts (nearL vec lim (l.take i))) ∧ Below W.heap.size W wr)) (fun _ vi _ => n - (intOf vi).toNat)
    case atStart => exact ⟨0, by omega, rfl, Lib.hid ⟨World.ownsRow_nil .., HB1.out⟩⟩
    case round =>
      obtain ⟨i, hi, rfl, HO⟩ := hrel
      clear HB1
      obtain ⟨A5, c5, rfl, hq1, hq2⟩ := own_shape HO.out.1
      have hbW : Below w.heap.size w wr := HB.out.1.trans (HO.out.2.mono (by have := HB.out.2.1; omega))
      have hrow : Row wr w.heap.size 29 [.int .i64 (dim : Int), .slice A l.length c] := HB.out.2.2.keep (HO.out.2.block _ (by have := HB.out.2.1; omega))
      have y0 := hrow.cell (j := 0) rfl
      have y1 := hrow.cell (j := 1) rfl
      have yl := hrow.lt
      rw [← HN.out] at y1
      have hD := H.out.1.below hbW
      by_cases hlt : i < n
      · have hltz : (i : Int) < (n : Int) := by omega
        have hP := hD.toPts
        rw [← HN.out] at hP
        obtain ⟨ad, hA, hab, hil, x0, x1, hg⟩ := hP.at_ hlt
        subst hA
        have cl : (ad.add (i * 2)).block < wr.heap.size := by rw [block_of_add]; exact hab
        have hokp := H.out.2.2.1 _ (ptAt_mem hil)
        have hvw : Reads wr wr.heap.size 1 A' n' (ints vec) := (H.out.2.2.2.below hbW).more hbW.size
        have hd := rdist_any A' (ptAt l i).2.1.1 n' (ptAt l i).2.1.2.1 c' (ptAt l i).2.1.2.2 _ _ vec (ptAt l i).2.2 wr hvw hg.1.1 HM.out hg.1.2
        have hvok := ck_len HK.out
        rw [dstR_yes ⟨hvok.1, hokp.1, by rw [hokp.2, hvok.2]⟩, far_comm] at hd
        have HSN := Lib.hid (nearL_snoc (v := vec) (lim := lim) hil)
        have HLE := Lib.hid (show (nearL vec lim (l.take i)).length ≤ 1000 from Nat.le_trans (List.length_filter_le ..) (by rw [List.length_take]; omega))
        have hown := HO.out.1
        have HO2 := Lib.hid HO.out.2
        unfold two at hd
        clear hg hP hD hokp hvw hvok hab hil hrow hbW HO
        generalize hX : ptAt l i = X at *
        have HX := Lib.hid hX
        clear hX
        obtain ⟨xi, ⟨xA, xn, xc⟩, xv⟩ := X
        simp only at x0 x1 hd HSN
        generalize hf : far xv vec = D at *
        have HFD := Lib.hid hf
        clear hf
        generalize hL : nearL vec lim (l.take i) = L at *
        have HLL := Lib.hid hL
        clear hL
        have hle := HLE.out
        generalize hm : L.length = m at *
        have HMM := Lib.hid hm
        clear hm
        have hown0 := hown
        by_cases hdl : D ≤ lim
        · have HS2 := Lib.hid (show nearL vec lim (l.take (i + 1)) = L ++ [(xi, (xA, xn, xc), xv)] by rw [HSN.out, if_pos hdl])
          go_wp2_with fail
          refine hd.mono ?_
          rintro e w5 ⟨rfl, q5, rfl⟩
          have HOWN5 : Hid ((wr.drewN q5).ownsRow W.heap.size 37 2 (.slice A5 m c5) m (pts L)) := Lib.hid hown0
          have HB5 := Lib.hid (below_drewN HO2.out q5)
          have hbs5 := HB5.out.size
          clear hd hown hown0
          go_wp2_with (at_builtin; refine append_pt rfl (.tmp 43) (.tmp 49) rfl W.heap.size _ m L xi xA xn xc xv rfl HOWN5.out _ rfl rfl (by omega) hbs5 ?_; intro v2 w2 hown2 hg2 hv2)
          go_roundw
          case rel => exact ⟨i + 1, by omega, by go_num, Lib.hid ⟨by rw [HS2.out, List.length_append, HMM.out]; exact hown2, HB5.out.trans (below_own HOWN5.out hg2 hbs5)⟩⟩
          case measure => simp [intOf]; omega
        · have HS2 := Lib.hid (show nearL vec lim (l.take (i + 1)) = L by rw [HSN.out, if_neg hdl, List.append_nil])
          go_wp2_with fail
          refine hd.mono ?_
          rintro e w5 ⟨rfl, q5, rfl⟩
          have HO5 := Lib.hid (show (wr.drewN q5).ownsRow W.heap.size 37 2 (.slice A5 m c5) m (pts L) ∧ Below W.heap.size W (wr.drewN q5) from ⟨hown0, below_drewN HO2.out q5⟩)
          clear hd hown hown0
          go_wp2_with fail
          go_roundw
          case rel => exact ⟨i + 1, by omega, by go_num, Lib.hid (by rw [HS2.out, HMM.out]; exact HO5.out)⟩
          case measure => simp [intOf]; omega
      · have hltz : ¬ (i : Int) < (n : Int) := by omega
        have hfull : l.take i = l := List.take_of_length_le (by have := HN.out; omega)
        have hown := HO.out.1
        rw [hfull] at hown hq1
        have hle : (nearL vec lim l).length ≤ 512 := Nat.le_trans (List.length_filter_le ..) (by rw [← HN.out]; exact hl)
        have hdoc : DocW wr (NewP P W wr) A5 c5 (nearL vec lim l) := DocW.of_own hown rfl (fun p hp => ((H.out.1.allp p ((List.mem_filter.1 hp).1)).keep (fun b hP => hbW.block b (H.out.1.lt b hP))).more (fun b hP => .inl hP)) (fun b hb => hb.elim (fun h1 => Nat.lt_of_lt_of_le (H.out.1.lt b h1) hbW.size) (fun h1 => h1.2)) (fun g h1 h2 => .inr ⟨h1, h2⟩)
        have hvw : Reads wr wr.heap.size 1 A' n' (ints vec) := (H.out.2.2.2.below hbW).more hbW.size
        have hvok := ck_len HK.out
        have hids : (hsOf vec (nearL vec lim l)).Pairwise fun p q => p.1 ≠ q.1 := by rw [nearL_hs]; exact nearH_ids H.out.2.1 vec lim
        have hall : AllOk vec (nearL vec lim l) := ⟨hvok.1, fun p hp => by
          have := H.out.2.2.1 p ((List.mem_filter.1 hp).1)
          exact ⟨this.1, hvok.1, by rw [this.2, hvok.2]⟩⟩
        have hse := rsearch_any A5 _ c5 (nearL vec lim l) A' n' c' vec k (srtH (hsOf vec (nearL vec lim l))) wr hdoc.toPts hvw (by omega) HM.out (fun _ _ _ => topR_srt hids)
        have HF := Lib.hid (And.intro hall hbW)
        clear hown hdoc hvw hvok hids hall hq1 hD
        rw [hfull]
        generalize hm : (nearL vec lim l).length = m at *
        go_wp2_with fail
        refine hse.mono ?_
        intro e w7 hpost
        unfold SPost at hpost
        obtain ⟨A7, m7, c7, X, er, rfl, hans, hR7, hm7, hb7, hfr7⟩ := hpost
        have HA := Lib.hid (And.intro hans (And.intro hR7 (And.intro hm7 (And.intro hb7 hfr7))))
        clear hans hR7 hm7 hb7 hse hfr7
        go_wp2_with fail
        go_ret2
        obtain ⟨hans, hR7, hm7, hb7, hfr7⟩ := HA.out
        have hfr : ∀ ad, A7 = some ad → 0 < m7 → w.heap.size ≤ ad.block := fun ad e h0 => Nat.le_trans HF.out.2.size (hfr7 ad e h0)
        have hbf : Below w.heap.size w w7 := HF.out.2.trans (hb7.mono HF.out.2.size)
        rcases hans with ⟨h1, _⟩ | ⟨_, h2, rfl, rfl⟩ | ⟨_, h2, h3, _, rfl, rfl⟩
        · exact absurd HF.out.1 h1
        · refine ⟨A7, m7, c7, ?_, ?_, hm7, hbf, hfr⟩
          · unfold topE
            rw [if_pos HK.out, if_neg (by omega)]
            rfl
          · unfold topX
            rw [if_pos HK.out, if_neg (by omega)]
            exact hR7
        · refine ⟨A7, m7, c7, ?_, ?_, hm7, hbf, hfr⟩
          · unfold topE
            rw [if_pos HK.out, if_pos ⟨h2, h3⟩]
            rfl
          · unfold topX topH bst
            rw [if_pos HK.out, if_pos ⟨h2, h3⟩, ← nearL_hs]
            exact hR7
  · have h50 : ck vec dim = 50 := (ck_or _ _).resolve_left hk0
    rw [h50] at hck
    have HK := Lib.hid hk0
    clear hk0 h50
    go_enter Try.func20, Try.ntmps20
    go_wp2_with fail
    rw [HW.out]
    refine hck.mono ?_
    rintro e w1 ⟨rfl, q, rfl⟩
    go_wp2_with fail
    go_ret2
    refine ⟨none, 0, 0, ?_, ?_, by decide, below_drewN HB.out.1 q, fun ad e => by cases e⟩
    · unfold topE
      rw [if_neg HK.out]
      rfl
    · unfold topX
      rw [if_neg HK.out]
      exact Reads.none_
end Go.Proofs.Ytkgapieikgniiaa
