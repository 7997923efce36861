/- The walk of LogsAgain: it returns true. Conditions: the tables lie as start-up lays them. -/
import Derived.Test.YtoakhndbjggboaaDoorAgain
import Derived.DataShut
set_option linter.unusedVariables false
set_option linter.unusedSimpArgs false
namespace Go.Proofs.YtoakhndbjggboaaDoor
open Go Go.RowKit
/-- The texts of one turn. -/
def trio (rs : List (List UInt8)) (n k j : Nat) : List (List UInt8) := (List.range j).map fun i => rs.getD ((k + i) % n) []
theorem trio_next (rs : List (List UInt8)) (n k j : Nat) : trio rs n k (j + 1) = trio rs n k j ++ [rs.getD ((k + j) % n) []] := by simp [trio, List.range_succ]
theorem trio_len (rs : List (List UInt8)) (n k j : Nat) : (trio rs n k j).length = j := by simp [trio]
theorem tmod_nat (a b n : Nat) : ((a : Int) + (b : Int)).tmod (n : Int) = (((a + b) % n : Nat) : Int) := by
  rw [← Int.natCast_add, Int.ofNat_tmod]
/-- Three texts in a block of their own. -/
structure Lies (g : Nat) (o : Obj) (x y z : List UInt8) : Prop where
  three : ∀ w : World, w.heap[g]? = some o → Reads w w.heap.size 1 (some ⟨g, 0, none⟩) 3 (strL [x, y, z])
theorem Lies.two {g : Nat} {o : Obj} {x y z : List UInt8} (h : Lies g o x y z) (w : World) (hw : w.heap[g]? = some o) : Reads w w.heap.size 1 (some ⟨g, 0, none⟩) 2 (strL [x, y]) := by
  refine ⟨rfl, fun _ => ?_⟩
  obtain ⟨ad, e, hb, hc⟩ := (h.three w hw).2 (by omega)
  refine ⟨ad, e, hb, fun j u hu => hc j u ?_⟩
  rcases j with _ | _ | j
  · exact hu
  · exact hu
  · simp [strL] at hu
theorem Lies.last {g : Nat} {o : Obj} {x y z : List UInt8} (h : Lies g o x y z) (w : World) (hw : w.heap[g]? = some o) : w.cell? ⟨g, 2, none⟩ = some (.string ⟨z.toArray⟩) := by
  obtain ⟨ad, e, hb, hc⟩ := reads_str (h.three w hw) (show 2 < 3 by omega)
  injection e with e
  subst e
  exact hc
theorem lies_of {w : World} {g : Nat} {o : Obj} {x y z : List UInt8} (hw : w.heap[g]? = some o) (h : Reads w w.heap.size 1 (some ⟨g, 0, none⟩) 3 (strL [x, y, z])) : Lies g o x y z := by
  refine ⟨fun w' hw' => ?_⟩
  have hlt : g < w'.heap.size := (Array.getElem?_eq_some_iff.1 hw').1
  obtain ⟨ad, e, hb, hc⟩ := h.2 (by omega)
  injection e with e
  subst e
  have h1 : Reads w (g + 1) 1 (some ⟨g, 0, none⟩) 3 (strL [x, y, z]) := ⟨rfl, fun _ => ⟨_, rfl, Nat.lt_succ_self _, hc⟩⟩
  exact (reads_same h1 (fun ad e => by injection e with e; subst e; rfl) hw hw').more hlt
theorem trio_three (rs : List (List UInt8)) (n k : Nat) : ∃ x y z, trio rs n k 3 = [x, y, z] := ⟨_, _, _, rfl⟩
theorem i64_of_wf {n : Int} (h : (Lit.int .i64 n).wf = true) : -9223372036854775808 ≤ n ∧ n ≤ 9223372036854775807 := by
  have := (Lit.wf_int_iff .i64 n).1 h
  have h1 : IntKind.i64.min = -9223372036854775808 := by decide
  have h2 : IntKind.i64.max = 9223372036854775807 := by decide
  rw [h1, h2] at this
  exact this
set_option maxHeartbeats 8000000 in
set_option maxRecDepth 100000 in
theorem logsAgain_walk (A : Option Addr) (n c : Nat) (rs : List (List UInt8)) (keep : Int) (W : World) (hR : Reads W W.heap.size 1 A n (strL rs)) (hn : n ≤ maxLen) (hk : -9223372036854775808 ≤ keep ∧ keep ≤ 9223372036854775807) (hT : Tab W W.heap.size) (hP : Tabs W W.heap.size) : Calls Tryd.prog 4 #[.slice A n c, .int .i64 keep] W (Gives (.bool true) W) := by
  obtain ⟨hk1, hk2⟩ := hk
  have hbg := begun_any 40 (by decide) (by decide) W hT
  have haw := fun w (h : Tab w W.heap.size) => awake_any w h
  have hnm : (n : Int) ≤ 9223372036854775807 := by unfold maxLen at hn; omega
  have HB := Lib.hid hbg
  have HA := Lib.hid haw
  have HR := Lib.hid hR
  have HP := Lib.hid hP
  clear hbg haw hR hT hP hn
  rw [show ((40 : Nat) : Int) = 40 from rfl] at HB
  go_enter Tryd.func4, Tryd.ntmps4
  go_wp2_with fail
  refine HB.out.mono ?_
  rintro e w1 ⟨p, d, F1, G1, st, su, rfl, h1, hb1⟩
  have H1 := Lib.hid (And.intro h1 hb1)
  clear h1 hb1 HB
  go_wp2_with fail
  go_loopw [6, 8] (fun vl vi wr => ∃ (k p st : Nat) (F G : Nat → Prop) (R : List (List UInt8)) (su : List ByteArray), vi = .int .i64 (k : Int) ∧ k ≤ n ∧ k ≤ 8 ∧ vl = .pointer (some ⟨p, 0, none⟩) ∧ LogF wr W.heap.size F G p d 40 k st R R.length su [] ∧ Below W.heap.size W wr) (fun _ vi _ => n - (intOf vi).toNat)
  case atStart => exact ⟨0, p, st, F1, G1, [], su, rfl, Nat.zero_le _, by omega, rfl, H1.out.1, H1.out.2⟩
  case round =>
    clear H1
    obtain ⟨k, p, st, F, G, R, su, rfl, hk, hk8, rfl, hL, hb⟩ := hrel
    by_cases hend : k < n ∧ k < 8
    · obtain ⟨hlt, hlt2⟩ := hend
      have hltz : (k : Int) < (n : Int) := by omega
      have hltz2 : (k : Int) < 8 := by omega
      obtain ⟨w0, rfl⟩ : ∃ w0, w0 = wr := ⟨_, rfl⟩
      have H1 := Lib.hid (And.intro hL hb)
      have hbs := hb.size
      clear hL hb
      go_wp2_with fail
      go_loopw [9, 10] (fun va vj wq => ∃ (j : Nat) (v : Value), vj = .int .i64 (j : Int) ∧ v = va ∧ j ≤ 3 ∧ wq.ownsRow w0.heap.size 9 1 v j (strL (trio rs n k j)) ∧ Hid (∀ r ∈ trio rs n k j, r.length ≤ 100) ∧ Below w0.heap.size w0 wq) (fun _ vj _ => 3 - (intOf vj).toNat)
      case atStart => exact ⟨0, .slice none 0 0, rfl, rfl, by omega, World.ownsRow_nil .., Lib.hid (by simp [trio]), Below.refl _ _⟩
      case round =>
        obtain ⟨j, v, rfl, rfl, hj, hown, HS, hb2⟩ := hrel
        have hb2s := hb2.size
        by_cases hj3 : j < 3
        · have hjz : (j : Int) < 3 := by omega
          have hkz0 : (0 : Int) ≤ (k : Int) := by omega
          have hrem := tmod_nat k j n
          obtain ⟨q, hq⟩ : ∃ q, q = (k + j) % n := ⟨_, rfl⟩
          have hqn : q < n := by rw [hq]; exact Nat.mod_lt _ (by omega)
          rw [← hq] at hrem
          obtain ⟨ad, rfl, hbk, hcell⟩ := reads_str ((HR.out.below H1.out.2).below (hb2.mono hbs)) hqn
          have hbk2 : (ad.add q).block < wr.heap.size := by rw [block_of_add]; omega
          have hnx := trio_next rs n k j
          rw [← hq] at hnx
          generalize hr : rs.getD q [] = r at hcell hnx
          have HNX := Lib.hid hnx
          have hqz : (q : Int) < (n : Int) := by omega
          have HQ := Lib.hid hq
          clear hnx hr hq
          by_cases hrl : r.length ≤ 100
          · have hrz : ¬ (100 : Int) < (r.length : Int) := by omega
            go_wp2_with (at_builtin; go_loud (refine append_str rfl (.tmp 50) (.tmp 52) rfl w0.heap.size v j (strL (trio rs n k j)) ⟨r.toArray⟩ rfl hown wr.heap.size (by simp) rfl (by omega) hb2s ?_; intro v1 w1 hown1 hg1))
            have hb3 : Below w0.heap.size w0 w1 := ⟨hg1.os.trans hb2.os, hg1.tape.trans hb2.tape, hg1.output.trans hb2.output, Nat.le_trans hb2s hg1.size, fun b hb => (hg1.block b (by omega) (fun h => by have := (hown.lt b h.symm).1; omega)).trans (hb2.block b hb)⟩
            go_wp2_with fail
            go_roundw
            case rel => exact ⟨j + 1, v1, by go_num, rfl, by omega, by rw [HNX.out, ← strL_snoc]; exact hown1, Lib.hid (by rw [HNX.out]; intro r' hr'; rcases List.mem_append.1 hr' with h | h; exact HS.out _ h; rw [List.mem_singleton.1 h]; exact hrl), hb3⟩
            case measure => simp [intOf]; omega
          · have hrz : (100 : Int) < (r.length : Int) := by omega
            have haw := HA.out wr (H1.out.1.tab.on (hb2.mono hbs))
            have HAW := Lib.hid (And.intro haw (H1.out.2.trans (hb2.mono hbs)))
            clear haw hb2 hown hbk
            go_wp2_with fail
            refine HAW.out.1.mono ?_
            rintro e w6 ⟨rfl, hb6⟩
            go_wp2_with fail
            go_ret
            exact ⟨rfl, HAW.out.2.trans hb6⟩
        · have hjz : ¬ (j : Int) < 3 := by omega
          obtain rfl : j = 3 := by omega
          rcases hown.2 with ⟨_, h0⟩ | ⟨g, cap, cur, rfl, hg0, hblk, hc3, hcm, _, _⟩
          · exact absurd h0 (by decide)
          obtain ⟨x, y, z, hxyz⟩ := trio_three rs n k
          rw [hxyz] at hown HS
          have hli := lies_of hblk (Reads.of_own hown)
          have hx := HS.out x (by simp)
          have hy := HS.out y (by simp)
          have hz := HS.out z (by simp)
          have hK : LogK wr W.heap.size F G p d 40 k st R R.length su [] g (.cells cur 9 (0, 0)) := ⟨H1.out.1.below hb2, (Array.getElem?_eq_some_iff.1 hblk).1, hblk, fun hu => by have := H1.out.1.lt g hu; omega⟩
          have hbW := H1.out.2.trans (hb2.mono hbs)
          have hB1 : 2304 ≤ 128 * hB 40 (k + 1) := by unfold hB; split <;> omega
          have hcz : (3 : Int) ≤ (cap : Int) := by omega
          generalize (Obj.cells cur 9 (0, 0)) = o at hK hli hblk
          have han := logk_anew hK (by omega) [x, y] (some ⟨g, 0, none⟩) 2 cap (hli.two wr hblk) (fun ad e _ => by injection e with e; subst e; exact hK.o.out) (by unfold maxLen; omega) (fun r hr => by rcases List.mem_cons.1 hr with rfl | hr; omega; rw [List.mem_singleton.1 hr]; omega) (by simp [encs, enc_len]; omega) (by simp) (HP.out.on hbW)
          have HAN := Lib.hid han
          have HL := Lib.hid hli
          have HXYZ := Lib.hid (And.intro hx (And.intro hy hz))
          have HBW := Lib.hid (And.intro hbW hB1)
          clear han hli hx hy hz hK hbW hB1 hblk hown HS hb2 H1 hb2s
          go_wp2_with fail
          refine HAN.out.mono ?_
          rintro e w2 ⟨rfl, F2, G2, st2, su2, hK2, hb2⟩
          have hbW2 := HBW.out.1.trans hb2
          have hfl := logk_fail hK2 keep keep hk1 hk2 hk1 hk2
          have HFL := Lib.hid hfl
          have HB2 := Lib.hid hbW2
          clear hfl hK2 hb2 hbW2 HAN
          go_wp2_with fail
          refine HFL.out.mono ?_
          rintro e w3 ⟨rfl, hD3, hb3⟩
          have hop := dskk_open hD3 (by decide)
          have HOP := Lib.hid hop
          have HB3 := Lib.hid (HB2.out.trans hb3)
          clear hop hD3 hb3 HFL HB2
          go_wp2_with fail
          refine HOP.out.mono ?_
          rintro e w4 ⟨p4, F4, G4, st4, su4, rfl, hK4, hb4⟩
          have c4 := HL.out.last w4 hK4.o.blk
          have HK4 := Lib.hid hK4
          have HB4 := Lib.hid (HB3.out.trans hb4)
          clear hK4 hb4 HOP HB3
          go_wp2_with fail
          have k5 : ∀ q, Calls Tryd.prog 14 #[.pointer (some ⟨p4, 0, none⟩)] (w4.drewN q) fun e w' => ∃ A n c, e = .returned (.slice A n c) ∧ n ≤ maxLen ∧ Reads w' w'.heap.size 1 A n (strL [x, y]) ∧ LogK w' W.heap.size F4 G4 p4 d 40 (k + 1) st4 [x, y] [x, y].length su4 [] g o ∧ Below W.heap.size w4 w' := fun q => by
            refine (logf_all (HK4.out.drewN q).f).mono ?_
            rintro e w5 ⟨A5, n5, c5, rfl, hn5, hm5, hR5, hb5⟩
            exact ⟨A5, n5, c5, rfl, hm5, hR5, (HK4.out.drewN q).below hb5, (below_drewN (Below.refl _ w4) q).trans (hb5.mono HK4.out.f.tab.le)⟩
          have K5 := Lib.hid k5
          clear k5
          have hcz2 : (2 : Int) ≤ (cap : Int) := by omega
          have hcz3 : (0 : Int) ≤ (2 : Int) := by decide
          go_region_held3 (fun w' => w'.cell? ⟨g, 2, none⟩ = some (.string ⟨z.toArray⟩))
            (first | exact c9 | exact c8 | exact c7 | exact c6 | exact c5 | exact c4)
            (first
              | (go_at_call 14; refine (K5.out _).mono ?_; rintro e w5 ⟨A5, n5, c5', rfl, hm5, hR5, hK5, hb5⟩; have c5 := HL.out.last w5 hK5.o.blk; have HK5 := Lib.hid (And.intro hK5 (And.intro hR5 (And.intro hm5 hb5))); clear hK5 hR5 hm5 hb5)
              | (go_at_call 13; refine (same_yes [x, y] [x, y] rfl A5 n5 c5' (some ⟨g, 0, none⟩) 2 cap w5.heap.size w5 HK5.out.2.1 (HL.out.two w5 HK5.out.1.o.blk) (Nat.le_refl _) HK5.out.2.2.1 (by unfold maxLen; omega)).mono ?_; rintro e w6 ⟨rfl, q6, rfl⟩; have HK6 := Lib.hid (HK5.out.1.drewN q6); have c6 := HL.out.last _ HK6.out.o.blk)
              | (go_at_call 7; refine (logk_add HK6.out z (by have := HXYZ.out.2.2; omega) (by have := HXYZ.out; have := HBW.out.2; simp [encs, enc_len]; omega) (by simp)).mono ?_; rintro e w7 ⟨rfl, F7, G7, l7, hK7, hl7, hb7⟩; have c7 := HL.out.last _ hK7.o.blk; have HK7 := Lib.hid (And.intro hK7 (And.intro hl7 hb7)); clear hK7 hl7 hb7)
              | (go_at_call 15; refine (logk_flush HK7.out.1 (by have := HK7.out.2.1; simp at this; omega)).mono ?_; rintro e w8 ⟨rfl, F8, G8, st8, su8, hK8, hb8⟩; have c8 := HL.out.last _ hK8.o.blk; have HK8 := Lib.hid (And.intro hK8 hb8); clear hK8 hb8)
              | (go_at_call 11; refine (logk_fail HK8.out.1 keep keep hk1 hk2 hk1 hk2).mono ?_; rintro e w9 ⟨rfl, hD9, hb9⟩; have c9 := HL.out.last _ hD9.o.blk; have HD9 := Lib.hid (And.intro hD9 hb9); clear hD9 hb9))
          have hb9 : Below W.heap.size W w9 := (((HB4.out.trans HK5.out.2.2.2).trans (below_drewN (Below.refl _ w5) q6)).trans HK7.out.2.2).trans (HK8.out.2.trans HD9.out.2)
          have hop := dskk_open HD9.out.1 (by decide)
          have HOP := Lib.hid hop
          have HB9 := Lib.hid hb9
          clear hop hb9 HD9 HK8 HK7 HK6 HK5 K5 HB4 HK4 c4 c5 c6 c7 c8 c9
          go_wp2_with fail
          refine HOP.out.mono ?_
          rintro e w10 ⟨p10, F10, G10, st10, su10, rfl, hK10, hb10⟩
          have hal := logf_all hK10.f
          have HAL := Lib.hid hal
          have HK10 := Lib.hid (And.intro hK10 (HB9.out.trans hb10))
          clear hal hK10 hb10 HB9 HOP
          go_wp2_with fail
          refine HAL.out.mono ?_
          rintro e w11 ⟨A11, n11, c11, rfl, hn11, hm11, hR11, hb11⟩
          have hK11 := HK10.out.1.below hb11
          have hb11' := HK10.out.2.trans (hb11.mono HK10.out.1.f.tab.le)
          have hsm := same_yes ([x, y] ++ [z]) [x, y, z] rfl A11 n11 c11 (some ⟨g, 0, none⟩) 3 cap w11.heap.size w11 hR11 (HL.out.three w11 hK11.o.blk) (Nat.le_refl _) hm11 (by unfold maxLen; omega)
          have HSM := Lib.hid hsm
          have HK11 := Lib.hid (And.intro hK11 hb11')
          clear hsm hK11 hb11' hR11 hm11 hn11 hb11 HAL HK10
          go_wp2_with fail
          refine HSM.out.mono ?_
          rintro e w12 ⟨rfl, q12, rfl⟩
          go_wp2_with fail
          go_roundw
          case rel => exact ⟨k + 1, p10, st10, F10, G10, [x, y] ++ [z], su10, by go_num, by omega, by omega, rfl, HK11.out.1.f.drewN q12, HK11.out.2.trans (below_drewN (Below.refl _ w11) q12)⟩
          case measure => simp [intOf]; omega
    · have haw := HA.out wr hL.tab
      have HAW := Lib.hid haw
      have HBB := Lib.hid hb
      clear haw hL hb
      by_cases hlt : k < n
      · have hltz : (k : Int) < (n : Int) := by omega
        have hltz2 : ¬ (k : Int) < 8 := by omega
        clear hend
        go_wp2_with fail
        refine HAW.out.mono ?_
        rintro e w9 ⟨rfl, hb9⟩
        go_wp2_with fail
        go_ret
        exact ⟨rfl, HBB.out.trans hb9⟩
      · have hltz : ¬ (k : Int) < (n : Int) := by omega
        clear hend
        go_wp2_with fail
        refine HAW.out.mono ?_
        rintro e w9 ⟨rfl, hb9⟩
        go_wp2_with fail
        go_ret
        exact ⟨rfl, HBB.out.trans hb9⟩
end Go.Proofs.YtoakhndbjggboaaDoor
