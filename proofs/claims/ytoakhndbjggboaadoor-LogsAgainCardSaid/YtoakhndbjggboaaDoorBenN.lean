/- What Put and Only of package benc return of a number: its bytes, and the number again. Conditions: Go's table of powers of ten lies as start-up lays it. -/
import Derived.Test.YtoakhndbjggboaaDoorBenC
import Derived.Test.YtoakhndbjggboaaDoorBenW
set_option linter.unusedVariables false
set_option linter.unusedSimpArgs false
namespace Go.Proofs.YtoakhndbjggboaaDoor
open Go Go.RowKit
/-- A number's bytes. -/
def numB (n : Nat) : List UInt8 := 105 :: (Lib.decDigits n ++ [101])
def numS (n : Nat) : ByteArray := ⟨(numB n).toArray⟩
theorem numS_size (n : Nat) : (numS n).size = (Lib.decDigits n).length + 2 := by
  show (numB n).length = _
  simp [numB]
theorem numS_small (n : Nat) (hn : n ≤ 9223372036854775807) : (numS n).size ≤ 22 := by
  have := itoa_len (n : Int) (by omega) (by omega)
  rw [itoa_nat] at this
  rw [numS_size]
  omega
def vNum (n : Nat) : Value := .agg #[.int .i64 1, .int .i64 (n : Int), .string ⟨#[]⟩, .slice none 0 0]
theorem as_int_err (x : Value) (w : World) : (Instr.typeAssert (.iface 3 x) 20 27 true).run Tryd.prog w = .ok (.tuple #[.int .i64 0, .bool false]) w := by kernel_rfl
theorem as_int_int (x : Value) (w : World) : (Instr.typeAssert (.iface 3 x) 20 3 true).run Tryd.prog w = .ok (.tuple #[x, .bool true]) w := by kernel_rfl
theorem val_block {w : World} {b : Nat} {c0 c1 c2 c3 : Value} (h : w.heap[b]? = some (.cells #[c0, c1, c2, c3] 82 (0, 0))) : w.cell? ⟨b, 0, none⟩ = some c0 ∧ w.cell? ⟨b, 1, none⟩ = some c1 ∧ w.cell? ⟨b, 2, none⟩ = some c2 ∧ w.cell? ⟨b, 3, none⟩ = some c3 ∧ (∀ o, w.frozen? ⟨b, o, none⟩ = false) := by
  simp [World.cell?, World.frozen?, h]
theorem below_four {w w1 : World} {b : Nat} (h : Below w.heap.size w w1) (hb : w.heap.size ≤ b) (v0 v1 v2 v3 : Value) : Below w.heap.size w ((((w1.setCell ⟨b, 0, none⟩ v0).setCell ⟨b, 1, none⟩ v1).setCell ⟨b, 2, none⟩ v2).setCell ⟨b, 3, none⟩ v3) :=
  (((h.setCell hb _).setCell hb _).setCell hb _).setCell hb _
theorem bcell {w w1 : World} {o : Obj} (hb : Below (w.alloc o).heap.size (w.alloc o) w1) : w1.heap[w.heap.size]? = some o := (hb.block w.heap.size (by simp)).trans (by show (w.heap.push o)[w.heap.size]? = _; simp)
theorem bint_any (n : Int) (w : World) : Calls Tryd.prog 48 #[.int .i64 n] w fun e w' => e = .returned (.agg #[.int .i64 1, .int .i64 n, .string ⟨#[]⟩, .slice none 0 0]) ∧ Below w.heap.size w w' := by
  go_enter Tryd.func48, Tryd.ntmps48
  go_wp2
  refine bodyPost_ret (v := .agg #[.int .i64 1, .int .i64 n, .string ⟨#[]⟩, .slice none 0 0]) (by simp [results, Tryd.results48, go_sem]) rfl ⟨rfl, ?_⟩
  exact (Below.refl _ _).alloc (Nat.le_refl _) _
theorem below_new {w w1 : World} {o : Obj} (hb : Below (w.alloc o).heap.size (w.alloc o) w1) : Below w.heap.size w w1 := ((Below.refl _ _).alloc (Nat.le_refl _) _).trans (hb.mono (by simp))
theorem valueOf_num (n : Int) (w : World) : Calls Tryd.prog 76 #[.iface 3 (.int .i64 n)] w fun e w' => e = .returned (.agg #[.int .i64 1, .int .i64 n, .string ⟨#[]⟩, .slice none 0 0]) ∧ Below w.heap.size w w' := by
  have as0 := as_int_int (.int .i64 n)
  go_enter Tryd.func76, Tryd.ntmps76
  go_wp2_with fail
  refine (bint_any n _).mono ?_
  rintro e w1 ⟨rfl, hb⟩
  obtain ⟨e0, e1, e2, e3, ef⟩ := val_block (bcell hb)
  have hz : w.heap.size < w1.heap.size := by have := hb.size; simp at this; omega
  go_wp2_with fail
  refine bodyPost_ret (v := .agg #[.int .i64 1, .int .i64 n, .string ⟨#[]⟩, .slice none 0 0]) (by simp [results, Tryd.results76, go_sem, e0, e1, e2, e3, hz]) rfl ⟨rfl, ?_⟩
  exact below_four (below_new hb) (Nat.le_refl _) _ _ _ _
set_option maxRecDepth 100000 in
set_option maxHeartbeats 4000000 in
theorem rnumber_num (R n : Nat) (hn : n ≤ 1000000000) (d : Nat) (w : World) (h : IsRd w R (numS n) 0 d) : Calls Tryd.prog 82 #[.pointer (some ⟨R, 0, none⟩)] w fun e w' =>
    e = .returned (.iface 3 (.int .i64 (n : Int))) ∧ IsRd w' R (numS n) (numS n).size d ∧ w.grownBy w' (some R) := by
  have c1 := h.c1
  have f1 := h.f 1
  have hI2 : IsRd (w.setCell ⟨R, 1, none⟩ (.int .i64 (((0 : Nat) : Int) + 1))) R (numS n) 1 d := h.set1 1
  have hg2 : w.grownBy (w.setCell ⟨R, 1, none⟩ (.int .i64 (((0 : Nat) : Int) + 1))) (some R) := grown_setCell (World.grownBy.refl w _) _ rfl _
  rw [show ((0 : Nat) : Int) + 1 = 1 by rfl] at hI2 hg2
  have hs := numS_small n (by omega)
  have hd1 : (numS n).data.toList.drop 1 = Lib.decDigits n ++ [101] := rfl
  have HB : Hid (false = (((numS n).data.toList.drop 1).head? == some 45)) := Lib.hid (by
    rw [hd1]
    obtain ⟨c, r, e, hc, _⟩ := dec_head n
    rw [e, List.cons_append, List.head?_cons, eq_comm, Bool.eq_false_iff]
    intro hx
    simp only [beq_iff_eq, Option.some.injEq] at hx
    subst hx
    exact absurd hc (by decide))
  have HX : Hid (dg 9223372036854775807 101 20 true 0 ((numS n).data.toList.drop 1) = .ok (n, (Lib.decDigits n).length + 1)) := Lib.hid (by
    rw [hd1]
    exact dg_put _ _ _ (by decide) n (by omega) [])
  have HZ := Lib.hid (numS_size n)
  have HI := Lib.hid (And.intro hI2 hg2)
  have hnz : (n : Int) ≤ 1000000000 := by omega
  clear hd1 hI2 hg2 h hn
  generalize numS n = s at *
  go_enter Tryd.func82, Tryd.ntmps82
  go_wp2_with fail
  refine (is_z R s 1 d 45 _ rfl false _ HI.out.1 (by omega) HB.out).mono ?_
  rintro e w1 ⟨rfl, q1, rfl⟩
  go_wp2_with fail
  refine (digits_ok R s 1 d 9223372036854775807 _ rfl 101 _ rfl 20 _ (HI.out.1.drewN _) (by omega) (by decide) (by decide) (by decide) _ _ HX.out).mono ?_
  rintro e w3 ⟨rfl, hI4, hg4⟩
  go_wp2_with fail
  go_ret
  refine ⟨rfl, ?_, grown_then (grown_drewN HI.out.2 _) hg4⟩
  rw [HZ.out, show (Lib.decDigits n).length + 2 = 1 + ((Lib.decDigits n).length + 1) by omega]
  exact hI4
set_option maxRecDepth 100000 in
set_option maxHeartbeats 4000000 in
theorem rvalue_num (R n : Nat) (hn : n ≤ 1000000000) (d : Nat) (w : World) (h : IsRd w R (numS n) 0 d) : Calls Tryd.prog 75 #[.pointer (some ⟨R, 0, none⟩)] w fun e w' =>
    e = .returned (.iface 3 (.int .i64 (n : Int))) ∧ IsRd w' R (numS n) (numS n).size d ∧ w.grownBy w' (some R) := by
  have hs := numS_small n (by omega)
  have hmo := more_yes R (numS n) 0 d w h (by rw [numS_size]; omega)
  have his := fun q => is_z R (numS n) 0 d 105 105 rfl true (w.drewN q) (h.drewN q) (by omega) rfl
  have hnum := fun q => rnumber_num R n hn d (w.drewN q) (h.drewN q)
  have HM := Lib.hid hmo
  have HI := Lib.hid his
  have HN := Lib.hid hnum
  clear h hmo his hnum hs
  go_enter Tryd.func75, Tryd.ntmps75
  go_wp2_with fail
  refine HM.out.mono ?_
  rintro e w1 ⟨rfl, q1, rfl⟩
  go_wp2_with fail
  refine (HI.out q1).mono ?_
  rintro e w2 ⟨rfl, q2, rfl⟩
  go_wp2_with fail
  refine (HN.out (q1 + q2)).mono ?_
  rintro e w3 ⟨rfl, hI, hg⟩
  go_wp2_with fail
  go_ret
  exact ⟨rfl, hI, grown_then (grown_drewN (World.grownBy.refl w _) _) hg⟩
theorem take_start (s : ByteArray) (w : World) : ((w.alloc (.cells #[.int .i64 0, .int .i64 0, .string ⟨#[]⟩, .slice none 0 0] 82)).alloc (.cells #[.string s, .int .i64 0, .int .i64 0] 121)).heap[w.heap.size]? = some (.cells #[.int .i64 0, .int .i64 0, .string ⟨#[]⟩, .slice none 0 0] 82 (0, 0)) ∧
    IsRd ((w.alloc (.cells #[.int .i64 0, .int .i64 0, .string ⟨#[]⟩, .slice none 0 0] 82)).alloc (.cells #[.string s, .int .i64 0, .int .i64 0] 121)) (w.heap.size + 1) s 0 0 ∧
    Below w.heap.size w ((w.alloc (.cells #[.int .i64 0, .int .i64 0, .string ⟨#[]⟩, .slice none 0 0] 82)).alloc (.cells #[.string s, .int .i64 0, .int .i64 0] 121)) ∧
    ((w.alloc (.cells #[.int .i64 0, .int .i64 0, .string ⟨#[]⟩, .slice none 0 0] 82)).alloc (.cells #[.string s, .int .i64 0, .int .i64 0] 121)).heap.size = w.heap.size + 2 := by
  refine ⟨?_, ?_, ((Below.refl _ _).alloc (Nat.le_refl _) _).alloc (by simp) _, by simp⟩
  · rw [Below.heap_alloc _ _ _ (by simp)]
    exact heap_alloc_new w _
  · have := heap_alloc_new (w.alloc (.cells #[.int .i64 0, .int .i64 0, .string ⟨#[]⟩, .slice none 0 0] 82)) (.cells #[.string s, .int .i64 0, .int .i64 0] 121)
    simpa [IsRd] using this
theorem below_grown_new {w w1 w' : World} {R : Nat} (h : Below w.heap.size w w1) (hg : w1.grownBy w' (some R)) (hR : w.heap.size ≤ R) : Below w.heap.size w w' := h.grown hg h.size (fun k hk => by injection hk; omega)
set_option maxRecDepth 100000 in
set_option maxHeartbeats 8000000 in
theorem take_num (n : Nat) (hn : n ≤ 1000000000) (w : World) : Calls Tryd.prog 70 #[.string (numS n)] w fun e w' => e = .returned (.tuple #[vNum n, .int .i64 ((numS n).size : Int), .int .i64 0]) ∧ Below w.heap.size w w' := by
  obtain ⟨hblk, hI, hb0, hsz⟩ := take_start (numS n) w
  have hs := numS_small n (by omega)
  have hrv := fun w1 h => rvalue_num (w.heap.size + 1) n hn 0 w1 h
  have HRV := Lib.hid hrv
  clear hrv hn
  unfold vNum
  generalize numS n = s at *
  go_enter Tryd.func70, Tryd.ntmps70
  go_wp2_with fail
  generalize (w.alloc (.cells #[.int .i64 0, .int .i64 0, .string ⟨#[]⟩, .slice none 0 0] 82)).alloc (.cells #[.string s, .int .i64 0, .int .i64 0] 121) = w1 at hblk hI hb0 hsz
  have HB := Lib.hid hblk
  have HS := Lib.hid hsz
  clear hblk hsz
  refine (HRV.out _ hI).mono ?_
  rintro e w3 ⟨rfl, hI3, hg4⟩
  have as0 := as_int_err (.int .i64 (n : Int)) w3
  have hblk3 := (hg4.block w.heap.size (by have := HS.out; omega) (by simp)).trans HB.out
  have hb3 := below_grown_new hb0 hg4 (by omega)
  have hz3 : w.heap.size + 1 < w3.heap.size := by have := hg4.size; have := HS.out; omega
  have c1 := hI3.c1
  have hnz : ¬ (65536 : Int) < (s.size : Int) := by omega
  have HB3 := Lib.hid hblk3
  clear hblk3
  go_wp2_with fail
  go_region_held3 (fun w' => w'.cell? ⟨w.heap.size + 1, 1, none⟩ = some (.int .i64 (s.size : Int)))
    (first | go_keep | (rw [hb4.cell (by simp; omega)]; assumption))
    ((go_at_call 76; refine (valueOf_num (n : Int) _).mono ?_; rintro e w4 ⟨rfl, hb4⟩; obtain ⟨e0, e1, e2, e3, ef⟩ := val_block ((hb4.block w.heap.size (by simp; omega)).trans HB3.out); have hz4 : w.heap.size + 1 < w4.heap.size := (by have := hb4.size; simp at this; omega)))
  go_wp2_with fail
  have hb4' : Below w3.heap.size w3 w4 := (Below.refl w3.heap.size w3).drew.trans hb4
  have hb04 : Below w.heap.size w w4 := hb3.trans (hb4'.mono (by omega))
  refine bodyPost_ret (v := .tuple #[.agg #[.int .i64 1, .int .i64 (n : Int), .string ⟨#[]⟩, .slice none 0 0], .int .i64 (s.size : Int), .int .i64 0]) (by simp [results, Tryd.results70, go_sem, e0, e1, e2, e3, hz4, show w.heap.size < w4.heap.size by omega]) rfl ⟨rfl, ?_⟩
  exact below_four hb04 (Nat.le_refl _) _ _ _ _
set_option maxRecDepth 100000 in
set_option maxHeartbeats 8000000 in
theorem only_num (n : Nat) (hn : n ≤ 1000000000) (w : World) : Calls Tryd.prog 60 #[.string (numS n)] w fun e w' => e = .returned (.tuple #[vNum n, .int .i64 0]) ∧ Below w.heap.size w w' := by
  have htk := fun w => take_num n hn w
  unfold vNum at htk
  have HT := Lib.hid htk
  clear htk hn
  unfold vNum
  generalize numS n = s at *
  go_enter Tryd.func60, Tryd.ntmps60
  go_wp2_with fail
  refine (HT.out _).mono ?_
  rintro e w1 ⟨rfl, hb⟩
  have hblk := bcell hb
  obtain ⟨e0, e1, e2, e3, ef⟩ := val_block hblk
  have hz : w.heap.size < w1.heap.size := by have := hb.size; simp at this; omega
  have hbn := below_new hb
  go_wp2_with fail
  refine bodyPost_ret (v := .tuple #[.agg #[.int .i64 1, .int .i64 (n : Int), .string ⟨#[]⟩, .slice none 0 0], .int .i64 0]) (by simp [results, Tryd.results60, go_sem, e0, e1, e2, e3, hz]) rfl ⟨rfl, ?_⟩
  have := below_four hbn (Nat.le_refl _) (.int .i64 1) (.int .i64 (n : Int)) (.string ⟨#[]⟩) (.slice none 0 0)
  exact this.alloc this.size _
theorem put_start (w : World) (c0 c1 c2 c3 : Value) : WrAt ((w.alloc (.cells #[c0, c1, c2, c3] 82)).alloc (.cells #[.slice none 0 0] 91)) (w.heap.size + 1) (w.heap.size + 2) (.slice none 0 0) [] ∧ Below w.heap.size w ((w.alloc (.cells #[c0, c1, c2, c3] 82)).alloc (.cells #[.slice none 0 0] 91)) ∧
    ((w.alloc (.cells #[c0, c1, c2, c3] 82)).alloc (.cells #[.slice none 0 0] 91)).heap[w.heap.size]? = some (.cells #[c0, c1, c2, c3] 82 (0, 0)) := by
  refine ⟨⟨?_, World.ownsRow_nil .., by omega, by simp⟩, ((Below.refl _ _).alloc (Nat.le_refl _) _).alloc (by simp) _, ?_⟩
  · have := heap_alloc_new (w.alloc (.cells #[c0, c1, c2, c3] 82)) (.cells #[.slice none 0 0] 91)
    simpa using this
  · rw [Below.heap_alloc _ _ _ (by simp)]
    exact heap_alloc_new w _
set_option maxRecDepth 100000 in
set_option maxHeartbeats 8000000 in
theorem wvalue_num (Wb B n : Nat) (hn : n ≤ 1000000000) (w : World) (u : Value) (h : WrAt w Wb B u []) (hT : Tabs w Wb) : Calls Tryd.prog 57 #[.pointer (some ⟨Wb, 0, none⟩), vNum n, .int .i64 0] w fun e w' => e = .returned (.bool true) ∧ (∃ u', WrAt w' Wb B u' (numB n)) ∧ Below Wb w w' := by
  have hlt := h.lt
  have hle := h.le
  have hb0 : Below w.heap.size w (w.alloc (.cells #[.int .i64 1, .int .i64 (n : Int), .string ⟨#[]⟩, .slice none 0 0] 82)) := (Below.refl _ _).alloc (Nat.le_refl _) _
  have hb0' : Below Wb w (w.alloc (.cells #[.int .i64 1, .int .i64 (n : Int), .string ⟨#[]⟩, .slice none 0 0] 82)) := hb0.mono (by omega)
  have hw0 := h.below hb0
  have hT0 := hT.on hb0'
  have hsm := numS_small n (by omega)
  have hlen : (numB n).length = (numS n).size := rfl
  have he : [] ++ 105 :: (Lib.itoa (n : Int) ++ [101]) = numB n := by rw [itoa_nat]; rfl
  have HN := Lib.hid (wnumber_any Wb B u [] (n : Int) (by omega) (by omega) (by simp) _ hw0 hT0)
  have HE := Lib.hid he
  have HD := Lib.hid (show decide ((numB n).length ≤ 65536) = true from decide_eq_true (by omega))
  clear he hlen hsm hn hb0
  unfold vNum
  go_enter Tryd.func57, Tryd.ntmps57
  go_wp2_with fail
  refine HN.out.mono ?_
  rw [HE.out]
  rintro e w1 ⟨rfl, ⟨u1, hw1⟩, hb1⟩
  go_wp2_with fail
  refine (fits_any Wb B u1 _ _ hw1).mono ?_
  rw [HD.out]
  rintro e w2 ⟨rfl, rfl⟩
  go_wp2_with fail
  go_ret
  exact ⟨rfl, ⟨_, hw1⟩, hb0'.trans hb1⟩
set_option maxRecDepth 100000 in
set_option maxHeartbeats 8000000 in
theorem bput_num (n : Nat) (hn : n ≤ 1000000000) (w : World) (hT : Tabs w w.heap.size) : Calls Tryd.prog 47 #[vNum n] w fun e w' => e = .returned (.tuple #[.string (numS n), .int .i64 0]) ∧ Below w.heap.size w w' := by
  obtain ⟨hw0, hb0, hblk⟩ := put_start w (.int .i64 1) (.int .i64 (n : Int)) (.string ⟨#[]⟩) (.slice none 0 0)
  have hT0 := (hT.on hb0).up (B := w.heap.size + 1) (by omega)
  have hcall := wvalue_num (w.heap.size + 1) (w.heap.size + 2) n hn _ _ hw0 hT0
  have hpos : 0 < (numB n).length := by simp [numB]
  obtain ⟨e0, e1, e2, e3, ef⟩ := val_block hblk
  unfold vNum at hcall
  have HC := Lib.hid hcall
  clear hcall hT0
  unfold vNum numS
  generalize numB n = bf at *
  go_enter Tryd.func47, Tryd.ntmps47
  go_wp2_with fail
  generalize (w.alloc (.cells #[.int .i64 1, .int .i64 (n : Int), .string ⟨#[]⟩, .slice none 0 0] 82)).alloc (.cells #[.slice none 0 0] 91) = w0 at *
  refine HC.out.mono ?_
  rintro e w1 ⟨rfl, ⟨u, hw1'⟩, hb1⟩
  obtain ⟨k0, k1, k2⟩ := hw1'.cell
  have hcv := conv_row hw1'.own hpos 29 9 Tryd.underlying29 Tryd.underlying9
  go_wp2_with fail
  go_ret2
  exact ⟨rfl, hb0.trans (hb1.mono (by omega))⟩
end Go.Proofs.YtoakhndbjggboaaDoor
