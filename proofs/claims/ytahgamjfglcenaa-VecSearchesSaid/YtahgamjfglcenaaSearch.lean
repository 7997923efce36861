/- What Search of package vec returns. Conditions: the slices read as lists. -/
import Derived.Test.YtahgamjfglcenaaRSearch
import Derived.Laws.MakeOwn
set_option linter.unusedVariables false
set_option linter.unusedSimpArgs false
namespace Go.Proofs.Ytahgamjfglcenaa
open Go Go.RowKit
theorem made_own (w : World) (n : Nat) (hn : n ≤ 60) (cs : Array Value) (base : Nat) (hb : base ≤ w.heap.size) : (w.alloc (.cells (madeCells cs (n * 2)) 37)).ownsRow base 37 2 (.slice (some ⟨w.heap.size, 0, none⟩) 0 n) 0 [] :=
  ⟨rfl, .inr ⟨w.heap.size, n, _, rfl, hb, heap_alloc_new w _, Nat.zero_le _, by unfold maxLen; omega, size_madeCells _ _, by simp⟩⟩
theorem wf_hs {w : World} {B n : Nat} {A : Option Addr} {l : List Pt} {v : List Int} (h : Pts w B A n l) : WF (hsOf v l) := fun x hx => by
  obtain ⟨p, hp, rfl⟩ := List.mem_map.1 hx
  exact (h.good p hp).2
theorem box2 (w : World) (c0 c1 : Value) : (w.alloc (.cells #[c0, c1] 54)).cell? ⟨w.heap.size, 0, none⟩ = some c0 ∧ (w.alloc (.cells #[c0, c1] 54)).cell? ⟨w.heap.size, 1, none⟩ = some c1 := by
  constructor
  · rw [World.cell?_alloc_at _ _ _ _ rfl]; rfl
  · rw [World.cell?_alloc_at _ _ _ _ rfl]; rfl
set_option maxHeartbeats 8000000 in
set_option maxRecDepth 100000 in
theorem search_any (A : Option Addr) (n c : Nat) (l : List Pt) (A' : Option Addr) (n' c' : Nat) (v : List Int) (k : Int) (w : World) (hP : Pts w w.heap.size A n l) (hv : Reads w w.heap.size 1 A' n' (ints v)) (hm : n ≤ 60) (hm' : n' ≤ maxLen) :
    Calls Try.prog 23 #[.slice A n c, .slice A' n' c', .int .i64 k] w (fun e w' => ∃ S, SPost l v k S w e w') := by
  have HL := Lib.hid hP.len
  have HP := Lib.hid hP
  have HV := Lib.hid hv
  have hlen := hv.len
  have HI := check_any A' n' c' _ v (n' : Int) w hv hm'
  have hck : ck v (n' : Int) = if okV v = true then 0 else 50 := by rw [hlen]; exact ck_self v
  rw [hck] at HI
  have HM := Lib.hid hm'
  clear hP hv hm' hck hlen
  by_cases hok : okV v = true
  · rw [if_pos hok] at HI
    have HII := Lib.hid HI
    have HOK := Lib.hid hok
    obtain ⟨i0, hi, hz0, hz1, hz2⟩ := info_parts hit_row
    have hmk := fun w => run_make (P := Try.prog) w 31 37 i0 (hitV (0, 0)) Try.underlying31 hi hz0 .i64 .i64 0 (n : Int) (by omega) (by omega) (by rw [hz2]; omega) (by omega)
    have h00 : Int.toNat 0 = 0 := rfl
    have h01 : Int.toNat (n : Int) = n := Int.toNat_natCast n
    simp only [h00, h01] at hmk
    clear hok HI h00 h01
    go_enter Try.func23, Try.ntmps23
    go_wp2_with fail
    refine HII.out.mono ?_
    rintro e w1 ⟨rfl, q, rfl⟩
    clear HII
    go_wp2_with fail
    go_loopw [9, 26] (fun vh vi wr => ∃ i : Nat, i ≤ n ∧ vi = .int .i64 i ∧ wr.ownsRow w.heap.size 37 2 vh i (hits (hsOf v (l.take i))) ∧ Hid (∀ p ∈ l.take i, OkP v p) ∧ Below w.heap.size w wr) (fun _ vi _ => n - (intOf vi).toNat)
    case atStart => exact ⟨0, Nat.zero_le _, rfl, made_own (w.drewN q) n hm _ _ (Nat.le_refl _), Lib.hid (fun p hp => by simp at hp), (below_drewN (Below.refl _ _) q).alloc (Nat.le_refl _) _⟩
    case round =>
      obtain ⟨i, hi, rfl, hown, HA, hb⟩ := hrel
      obtain ⟨A5, c5, rfl, hq1, hq2⟩ := own_shape hown
      by_cases hin : i < n
      · have hinz : (i : Int) < (n : Int) := by omega
        obtain ⟨ad, rfl, had, hil, x0, x1, ⟨hg1, hg2⟩, _⟩ := (HP.out.below hb).at_ hin
        have HAD : Hid (∀ j, (ad.add j).block < w.heap.size) := Lib.hid (fun j => by rw [block_of_add]; exact had)
        have hba := hb.alloc hb.size (.cells #[.int .i64 (ptAt l i).1, .slice (ptAt l i).2.1.1 (ptAt l i).2.1.2.1 (ptAt l i).2.1.2.2] 54)
        have hd := dist_any (ptAt l i).2.1.1 A' (ptAt l i).2.1.2.1 n' (ptAt l i).2.1.2.2 c' _ _ (ptAt l i).2.2 v _ ((HP.out.good _ (ptAt_mem hil)).1.1.below hba) (HV.out.below hba) hg2 HM.out
        have howna := hown.alloc (.cells #[.int .i64 (ptAt l i).1, .slice (ptAt l i).2.1.1 (ptAt l i).2.1.2.1 (ptAt l i).2.1.2.2] 54)
        obtain ⟨b0, b1⟩ := box2 wr (.int .i64 (ptAt l i).1) (.slice (ptAt l i).2.1.1 (ptAt l i).2.1.2.1 (ptAt l i).2.1.2.2)
        have HOWN := Lib.hid howna
        have HB := Lib.hid hba
        have hbs := hba.size
        by_cases hp : OkP v (ptAt l i)
        · rw [dst_yes hp] at hd
          have HD := Lib.hid hd
          have HN := Lib.hid (okP_next hil HA.out hp)
          have HH := Lib.hid (hsOf_next (v := v) hil)
          have e1 : (hitOf v (ptAt l i)).1 = (ptAt l i).1 := rfl
          rw [← e1] at b0 HD HOWN HB x0 hbs
          clear hd hp hown hb had hg1 hg2 hq1 hq2 e1 howna hba b1
          generalize hitOf v (ptAt l i) = X at *
          unfold two at HD
          go_wp2_with fail
          refine HD.out.mono ?_
          rintro e w5 ⟨rfl, q5, rfl⟩
          have HOWN5 := Lib.hid (keep_none HOWN.out (below_drewN (Below.refl _ _) q5))
          generalize (wr.alloc _) = W1 at *
          go_wp2_with (at_builtin; refine append_hit rfl (.tmp 40) (.tmp 45) rfl w.heap.size _ i (hsOf v (l.take i)) X rfl HOWN5.out _ (by simp) rfl (by omega) hbs ?_; intro v2 w2 hown2 hg2 hv2)
          go_roundw
          case rel => exact ⟨i + 1, by omega, by go_num, by rw [HH.out]; exact hown2, HN, (below_drewN HB.out q5).trans (below_own HOWN5.out hg2 hbs)⟩
          case measure => simp [intOf]; omega
        · rw [dst_not hp] at hd
          have HD := Lib.hid hd
          have HN := Lib.hid (okP_not hil hp)
          clear hd hp hown had hg1 hg2 hq1 hq2 hb howna hba b0 b1
          unfold two at HD
          go_wp2_with fail
          refine HD.out.mono ?_
          rintro e w5 ⟨rfl, q5, rfl⟩
          go_wp2_with fail
          go_ret2
          exact ⟨[], SPost.bad HN.out (below_drewN HB.out q5)⟩
      · have hinz : ¬ (i : Int) < (n : Int) := by omega
        have hi2 : i = l.length := by rw [← HL.out]; omega
        have hall : AllOk v l := allOk_upto HOK.out (by rw [← hi2]; exact HA.out)
        have hfull : l.take i = l := by rw [hi2, List.take_length]
        rw [hfull] at hown
        have HALL := Lib.hid hall
        have HB := Lib.hid hb
        have hin2 : i ≤ 60 := by omega
        by_cases hk : k < 1
        · clear hown hall hfull hi2 hb
          go_wp2_with fail
          go_ret2
          exact ⟨[], SPost.off HALL.out (.inl hk) HB.out⟩
        · by_cases hk2 : 64 < k
          · have H1 := Lib.hid (top_no (some ⟨0, 0, none⟩) i c5 k wr (.inr hk2))
            have H2 := Lib.hid (fun A => top_no A i c5 k wr (.inr hk2))
            clear hown hall hfull hi2 hb
            go_wp2_with fail
            refine (H2.out _).mono ?_
            rintro e w6 ⟨rfl, rfl⟩
            go_wp2_with fail
            go_ret2
            exact ⟨[], SPost.off HALL.out (.inr hk2) HB.out⟩
          · obtain ⟨kn, rfl⟩ := Int.eq_ofNat_of_zero_le (show 0 ≤ k by omega)
            have HR := Lib.hid (top_any A5 i c5 (hsOf v l) kn wr (Reads.of_own hown) (wf_hs HP.out) (by omega) (by omega))
            have hk3 : 1 ≤ kn := by omega
            have hk4 : kn ≤ 64 := by omega
            clear hown hall hfull hi2 hb
            go_wp2_with fail
            refine HR.out.mono ?_
            rintro e w6 ⟨A6, m6, c6, S, rfl, hT, hR6, h61, h62, hb6⟩
            have HF := Lib.hid (And.intro hT (And.intro hR6 (And.intro (Nat.le_trans (by assumption : m6 ≤ c6) h62) (below_two HB.out hb6))))
            clear hT hR6 hb6 h61 h62 HR
            go_wp2_with fail
            go_ret2
            exact ⟨S, A6, m6, c6, S.take kn, 0, rfl, .inr (.inr ⟨HALL.out, by omega, by omega, HF.out.1, rfl, rfl⟩), HF.out.2.1, HF.out.2.2.1, HF.out.2.2.2⟩
  · have hn : ¬ AllOk v l := fun h => hok h.1
    rw [if_neg hok] at HI
    have HII := Lib.hid HI
    have HN := Lib.hid hn
    clear hok hn HI
    go_enter Try.func23, Try.ntmps23
    go_wp2_with fail
    refine HII.out.mono ?_
    rintro e w1 ⟨rfl, q, rfl⟩
    go_wp2_with fail
    go_ret2
    exact ⟨[], SPost.bad HN.out (below_drewN (Below.refl _ _) q)⟩
end Go.Proofs.Ytahgamjfglcenaa
