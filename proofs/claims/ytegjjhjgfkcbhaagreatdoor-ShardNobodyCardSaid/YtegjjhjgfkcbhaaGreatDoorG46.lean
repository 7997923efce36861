/- SNob, SNobO, SNobL in one text. Conditions: as each part says. -/
import Derived.Test.YtegjjhjgfkcbhaaGreatDoorG45
section
set_option linter.unusedVariables false
set_option linter.unusedSimpArgs false
set_option maxRecDepth 100000
namespace Go.Proofs.YtegjjhjgfkcbhaaGreatDoor
open Go Go.RowKit
def NoS (w : World) (v : Value) : Prop := v = .pointer none ∨ ∃ X, v = .pointer (some ⟨X, 0, none⟩) ∧ Row w X 75 [.pointer none, .pointer none, .pointer none]
theorem NoS.below {w w' : World} {v : Value} (h : NoS w v) (hb : Below w.heap.size w w') : NoS w' v := by
  rcases h with h | ⟨X, h, hr⟩
  · exact .inl h
  · exact .inr ⟨X, h, hr.keep (hb.block _ hr.lt)⟩
theorem seql_none (g : Nat) (w : World) : (binOp .eql 37 (.pointer none) (.pointer (some ⟨g, 0, none⟩))).run Tryz.prog w = .ok (.bool false) w := by
  obtain ⟨j, hj, _⟩ := Option.map_eq_some_iff.1 sh_row
  have h : ∀ d : Nat, (Op.equalIn (d + 1) 37 (.pointer none) (.pointer (some ⟨g, 0, none⟩))).run Tryz.prog w = .ok false w := fun d => by
    simp [Op.equalIn, run_underlying Tryz.underlying37, sizeOf, typeInfo, hj]
  simp only [binOp]
  simp [Op.equal, Op.maxDepth, h 9999]
section
variable {w : World} {v : Value}
theorem ns_given (h : NoS w v) : Calls Tryz.prog 43 #[v] w fun e w' => e = .returned (.bool false) ∧ w = w' := by
  rcases h with rfl | ⟨X, rfl, hr⟩
  · go_enter Tryz.func43, Tryz.ntmps43
    go_wp2
    go_ret
    exact ⟨rfl, rfl⟩
  · have hc : w.cell? ⟨X, 0, none⟩ = some (.pointer none) := hr.cell rfl
    have hl := hr.lt
    have he := seql_none X w
    clear hr
    go_enter Tryz.func43, Tryz.ntmps43
    go_wp2
    go_ret
    exact ⟨rfl, rfl⟩
theorem ns_stands (h : NoS w v) : Calls Tryz.prog 17 #[v] w fun e w' => e = .returned (.tuple #[.int .i64 0, .int .i64 0, .int .i64 0, .int .i64 0]) ∧ w = w' := by
  have HG := Lib.hid (ns_given h)
  clear h
  go_enter Tryz.func17, Tryz.ntmps17
  go_wp2_with (with_reducible refine HG.out.mono ?_; rintro e w1 ⟨rfl, rfl⟩)
  refine bodyPost_ret (v := .tuple #[.int .i64 0, .int .i64 0, .int .i64 0, .int .i64 0]) (by simp [results, Tryz.results17, go_sem]) rfl ⟨rfl, rfl⟩
theorem ns_ask (h : NoS w v) (A : Option Addr) (n c : Nat) (k lim : Int) : Calls Tryz.prog 31 #[v, .slice A n c, .int .i64 k, .int .i64 lim] w fun e w' => e = .returned (.tuple #[.slice none 0 0, .int .i64 1]) ∧ w = w' := by
  have HG := Lib.hid (ns_given h)
  clear h
  go_enter Tryz.func31, Tryz.ntmps31
  go_wp2_with (with_reducible refine HG.out.mono ?_; rintro e w1 ⟨rfl, rfl⟩)
  go_ret2
  exact ⟨rfl, rfl⟩
theorem ns_text (h : NoS w v) : Calls Tryz.prog 18 #[v] w fun e w' => e = .returned (.tuple #[.string ⟨#[]⟩, .int .i64 1]) ∧ w = w' := by
  have HG := Lib.hid (ns_given h)
  clear h
  go_enter Tryz.func18, Tryz.ntmps18
  go_wp2_with (with_reducible refine HG.out.mono ?_; rintro e w1 ⟨rfl, rfl⟩)
  go_ret2
  exact ⟨rfl, rfl⟩
theorem ns_since (h : NoS w v) (n : Int) : Calls Tryz.prog 23 #[v, .int .i64 n] w fun e w' => e = .returned (.tuple #[.string ⟨#[]⟩, .int .i64 1]) ∧ w = w' := by
  have HG := Lib.hid (ns_text h)
  clear h
  go_enter Tryz.func23, Tryz.ntmps23
  go_wp2_with (with_reducible refine HG.out.mono ?_; rintro e w1 ⟨rfl, rfl⟩)
  go_ret2
  exact ⟨rfl, rfl⟩
theorem ns_points (h : NoS w v) : Calls Tryz.prog 21 #[v] w fun e w' => e = .returned (.slice none 0 0) ∧ w = w' := by
  have HG := Lib.hid (ns_given h)
  clear h
  go_enter Tryz.func21, Tryz.ntmps21
  go_wp2_with (with_reducible refine HG.out.mono ?_; rintro e w1 ⟨rfl, rfl⟩)
  go_ret
  exact ⟨rfl, rfl⟩
theorem ns_found (h : NoS w v) (n : Int) : Calls Tryz.prog 15 #[v, .int .i64 n] w fun e w' => e = .returned (.int .i64 1) ∧ w = w' := by
  have HG := Lib.hid (ns_given h)
  clear h
  go_enter Tryz.func15, Tryz.ntmps15
  go_wp2_with (with_reducible refine HG.out.mono ?_; rintro e w1 ⟨rfl, rfl⟩)
  go_ret
  exact ⟨rfl, rfl⟩
theorem ns_load (h : NoS w v) (n : Int) (s : ByteArray) : Calls Tryz.prog 19 #[v, .int .i64 n, .string s] w fun e w' => e = .returned (.int .i64 1) ∧ w = w' := by
  have HG := Lib.hid (ns_given h)
  clear h
  go_enter Tryz.func19, Tryz.ntmps19
  go_wp2_with (with_reducible refine HG.out.mono ?_; rintro e w1 ⟨rfl, rfl⟩)
  go_ret
  exact ⟨rfl, rfl⟩
theorem ns_seal (h : NoS w v) (n : Int) : Calls Tryz.prog 22 #[v, .int .i64 n] w fun e w' => e = .returned (.int .i64 1) ∧ w = w' := by
  have HG := Lib.hid (ns_given h)
  clear h
  go_enter Tryz.func22, Tryz.ntmps22
  go_wp2_with (with_reducible refine HG.out.mono ?_; rintro e w1 ⟨rfl, rfl⟩)
  go_ret
  exact ⟨rfl, rfl⟩
theorem ns_adopt (h : NoS w v) (n m : Int) (s : ByteArray) : Calls Tryz.prog 24 #[v, .int .i64 n, .int .i64 m, .string s] w fun e w' => e = .returned (.int .i64 1) ∧ w = w' := by
  have HG := Lib.hid (ns_given h)
  clear h
  go_enter Tryz.func24, Tryz.ntmps24
  go_wp2_with (with_reducible refine HG.out.mono ?_; rintro e w1 ⟨rfl, rfl⟩)
  go_ret
  exact ⟨rfl, rfl⟩
theorem ns_forget (h : NoS w v) (n : Int) : Calls Tryz.prog 26 #[v, .int .i64 n] w fun e w' => e = .returned (.int .i64 1) ∧ w = w' := by
  have HG := Lib.hid (ns_given h)
  clear h
  go_enter Tryz.func26, Tryz.ntmps26
  go_wp2_with (with_reducible refine HG.out.mono ?_; rintro e w1 ⟨rfl, rfl⟩)
  go_ret
  exact ⟨rfl, rfl⟩
theorem ns_reopen (h : NoS w v) (n m : Int) : Calls Tryz.prog 32 #[v, .int .i64 n, .int .i64 m] w fun e w' => e = .returned (.int .i64 1) ∧ w = w' := by
  have HG := Lib.hid (ns_given h)
  clear h
  go_enter Tryz.func32, Tryz.ntmps32
  go_wp2_with (with_reducible refine HG.out.mono ?_; rintro e w1 ⟨rfl, rfl⟩)
  go_ret
  exact ⟨rfl, rfl⟩
theorem ns_write (h : NoS w v) (cl sq kd x K : Int) (A : Option Addr) (n c : Nat) : Calls Tryz.prog 16 #[v, .int .i64 cl, .int .i64 sq, .agg #[.int .i64 kd, .int .i64 x, .slice A n c, .int .i64 K]] w fun e w' => e = .returned (.tuple #[.agg #[.int .i64 0, .bool false, .slice none 0 0], .int .i64 1]) ∧ Below w.heap.size w w' := by
  obtain ⟨W, hW⟩ : ∃ W, (w.alloc (.cells #[.int .i64 kd, .int .i64 x, .slice A n c, .int .i64 K] 29)).alloc (.cells #[.int .i64 0, .bool false, .slice none 0 0] 52) = W := ⟨_, rfl⟩
  have hbW : Below w.heap.size w W := by rw [← hW]; exact ((Below.refl _ _).alloc (Nat.le_refl _) _).alloc (by simp) _
  have hY : Row W (w.heap.size + 1) 52 [.int .i64 0, .bool false, .slice none 0 0] := by
    rw [← hW]
    have := Row.new (w.alloc (.cells #[.int .i64 kd, .int .i64 x, .slice A n c, .int .i64 K] 29)) 52 [.int .i64 0, .bool false, .slice none 0 0]
    rw [World.size_alloc] at this
    exact this
  have HG := Lib.hid (ns_given (h.below hbW))
  have y0 := hY.cell (j := 0) (u := .int .i64 0) rfl
  have y1 := hY.cell (j := 1) (u := .bool false) rfl
  have y2 := hY.cell (j := 2) (u := .slice none 0 0) rfl
  have yl := hY.lt
  have yz := fun j => hY.frozen j
  have HB := Lib.hid hbW
  have HWl := Lib.hid hW
  clear h hbW hY hW
  go_enter Tryz.func16, Tryz.ntmps16
  go_wp2_with fail
  rw [HWl.out]
  go_wp2_with (with_reducible refine HG.out.mono ?_; rintro e w1 ⟨rfl, rfl⟩)
  refine bodyPost_ret (v := .tuple #[.agg #[.int .i64 0, .bool false, .slice none 0 0], .int .i64 1]) (by simp [results, Tryz.results16, go_sem, y0, y1, y2, yl]) rfl ⟨rfl, ?_⟩
  first | exact HB.out | exact ((HB.out.setCell (by simp) _).setCell (by simp) _).setCell (by simp) _
end
end Go.Proofs.YtegjjhjgfkcbhaaGreatDoor
end
section
set_option linter.unusedVariables false
set_option linter.unusedSimpArgs false
set_option maxRecDepth 100000
namespace Go.Proofs.YtegjjhjgfkcbhaaGreatDoor
open Go Go.RowKit
theorem nil_blocks (w : World) : Calls Tryz.prog 89 #[.pointer none] w fun e w' => e = .returned (.int .i64 0) ∧ w = w' := by
  have HG := Lib.hid (show Calls Tryz.prog 57 #[.pointer none] w fun e w' => e = .returned (.bool false) ∧ w = w' by
    go_enter Tryz.func57, Tryz.ntmps57
    go_wp2
    go_ret
    exact ⟨rfl, rfl⟩)
  go_enter Tryz.func89, Tryz.ntmps89
  go_wp2_with (with_reducible refine HG.out.mono ?_; rintro e w1 ⟨rfl, rfl⟩)
  go_ret
  exact ⟨rfl, rfl⟩
theorem lopen_nil (w : World) : Calls Tryz.prog 53 #[.pointer none] w fun e w' => e = .returned (.tuple #[.pointer none, .int .i64 1]) ∧ w = w' := by
  have HG := Lib.hid (nil_blocks w)
  go_enter Tryz.func53, Tryz.ntmps53
  go_wp2_with (with_reducible refine HG.out.mono ?_; rintro e w1 ⟨rfl, rfl⟩)
  go_ret2
  exact ⟨rfl, rfl⟩
theorem sopen_nil (w : World) : Calls Tryz.prog 29 #[.pointer none, .int .i64 2] w fun e w' => e = .returned (.tuple #[.pointer none, .int .i64 1]) ∧ w = w' := by
  have HG := Lib.hid (lopen_nil w)
  go_enter Tryz.func29, Tryz.ntmps29
  go_wp2_with (with_reducible refine HG.out.mono ?_; rintro e w1 ⟨rfl, rfl⟩)
  go_ret2
  exact ⟨rfl, rfl⟩
theorem sopen_dim (w : World) (d : Value) (n : Int) (h : n < 1 ∨ 16 < n) : Calls Tryz.prog 29 #[d, .int .i64 n] w fun e w' => e = .returned (.tuple #[.pointer none, .int .i64 1]) ∧ w = w' := by
  rcases h with h | h
  · go_enter Tryz.func29, Tryz.ntmps29
    go_wp2_with fail
    go_ret2
    exact ⟨rfl, rfl⟩
  · have h1 : ¬ n < 1 := by omega
    go_enter Tryz.func29, Tryz.ntmps29
    go_wp2_with fail
    go_ret2
    exact ⟨rfl, rfl⟩
/-- Open on a new disk, whatever dimension. -/
def OpV (n : Int) (v : Value) (e0 : Int) : Prop := (1 ≤ n ∧ n ≤ 16 ∧ ∃ s : Nat, v = .pointer (some ⟨s, 0, none⟩) ∧ e0 = 0) ∨ ((n < 1 ∨ 16 < n) ∧ v = .pointer none ∧ e0 = 1)
def OpP (n : Int) (B : Nat) (w : World) (e : Ending) (w' : World) : Prop := ∃ v e0, e = .returned (.tuple #[v, .int .i64 e0]) ∧ Below B w w' ∧ OpV n v e0
theorem sopen_new {B d : Nat} {F : Nat → Prop} {w : World} (hT : Tab w B) (hP : Tabs w B) (hD : Disk w F d 8 (none_ 8) []) (hF : ∀ b, F b → B ≤ b) (n : Int) : Calls Tryz.prog 29 #[.pointer (some ⟨d, 0, none⟩), .int .i64 n] w (OpP n B w) := by
  by_cases h : n < 1 ∨ 16 < n
  · refine (sopen_dim w _ n h).mono ?_
    rintro e w' ⟨rfl, rfl⟩
    exact ⟨_, _, rfl, Below.refl _ _, .inr ⟨h, rfl, rfl⟩⟩
  · have h1 : 1 ≤ n := by omega
    have h2 : n ≤ 16 := by omega
    obtain ⟨m, rfl⟩ := Int.eq_ofNat_of_zero_le (show 0 ≤ n by omega)
    have hdt : DskT w B F d 8 0 (([] : List RK).map RK.bytes) ([] : List RK).length (none_ 8) := ⟨hD, ⟨0, diskD_new 8 (by omega) (by omega), Nat.zero_le _⟩, hF, hT⟩
    refine (sopen_any (dim := m) hdt (by omega) hP (by omega) (by omega) (R := []) trivial (fun r hr => by cases hr) (fun r hr => by cases hr) (ks0_good m (by omega) (by omega))).mono ?_
    rintro e w' ⟨s, Z, rfl, hs, T⟩
    exact ⟨_, _, rfl, T.down hF hT.le, .inl ⟨h1, h2, s, rfl, rfl⟩⟩
end Go.Proofs.YtegjjhjgfkcbhaaGreatDoor
end
section
set_option linter.unusedVariables false
set_option linter.unusedSimpArgs false
set_option maxRecDepth 100000
namespace Go.Proofs.YtegjjhjgfkcbhaaGreatDoor
open Go Go.RowKit
/-- What lies beside the loop: both shards, the change. -/
structure NbW (w0 : World) (g i : Nat) (r : Value) (kd x K : Int) (A : Option Addr) (ln c : Nat) (w : World) : Prop where
  at_ : w.cell? ⟨g, i, none⟩ = some r
  no : NoS w r
  gl : g < w.heap.size
  op : Row w w0.heap.size 29 [.int .i64 kd, .int .i64 x, .slice A ln c, .int .i64 K]
theorem NbW.below {w0 w w' : World} {g i : Nat} {r : Value} {kd x K : Int} {A : Option Addr} {ln c : Nat} (h : NbW w0 g i r kd x K A ln c w) (hb : Below w.heap.size w w') : NbW w0 g i r kd x K A ln c w' :=
  ⟨(hb.cell h.gl).trans h.at_, h.no.below hb, Nat.lt_of_lt_of_le h.gl hb.size, h.op.keep (hb.block _ h.op.lt)⟩
def NbS (w0 : World) (g i : Nat) (r : Value) (kd x K : Int) (A : Option Addr) (ln c : Nat) (w : World) : Prop :=
  w.cell? ⟨g, i, none⟩ = some r ∧ w.cell? ⟨w0.heap.size, 0, none⟩ = some (.int .i64 kd) ∧ w.cell? ⟨w0.heap.size, 1, none⟩ = some (.int .i64 x) ∧ w.cell? ⟨w0.heap.size, 2, none⟩ = some (.slice A ln c) ∧ w.cell? ⟨w0.heap.size, 3, none⟩ = some (.int .i64 K)
theorem NbW.cells {w0 w : World} {g i : Nat} {r : Value} {kd x K : Int} {A : Option Addr} {ln c : Nat} (h : NbW w0 g i r kd x K A ln c w) : NbS w0 g i r kd x K A ln c w :=
  ⟨h.at_, h.op.cell (j := 0) rfl, h.op.cell (j := 1) rfl, h.op.cell (j := 2) rfl, h.op.cell (j := 3) rfl⟩
structure RP (W3 : World) (y : Nat) (w : World) : Prop where
  row : Row w y 52 [.int .i64 0, .bool false, .slice none 0 0]
  bel : Below W3.heap.size W3 w
theorem rp_last {W3 w5 : World} (h : Below W3.heap.size W3 w5) : RP W3 w5.heap.size (w5.alloc (.cells #[.int .i64 0, .bool false, .slice none 0 0] 52)) :=
  ⟨Row.new w5 _ _, h.alloc h.size _⟩
theorem rp_set {W3 wr w5 : World} (h : Below W3.heap.size W3 wr) (h5 : Below (wr.alloc (.cells #[.int .i64 0, .bool false, .slice none 0 0] 52)).drew.heap.size (wr.alloc (.cells #[.int .i64 0, .bool false, .slice none 0 0] 52)).drew w5) :
    Row w5 wr.heap.size 52 [.int .i64 0, .bool false, .slice none 0 0] ∧ RP W3 wr.heap.size (((w5.setCell ⟨wr.heap.size, 0, none⟩ (.int .i64 0)).setCell ⟨wr.heap.size, 1, none⟩ (.bool false)).setCell ⟨wr.heap.size, 2, none⟩ (.slice none 0 0)) := by
  have hr : Row (wr.alloc (.cells #[.int .i64 0, .bool false, .slice none 0 0] 52)).drew wr.heap.size 52 [.int .i64 0, .bool false, .slice none 0 0] := Row.new wr 52 [.int .i64 0, .bool false, .slice none 0 0]
  have hr5 := hr.keep (h5.block _ hr.lt)
  have hb : Below W3.heap.size W3 (wr.alloc (.cells #[.int .i64 0, .bool false, .slice none 0 0] 52)).drew := (h.alloc h.size _).drew
  have hb5 := hb.trans (h5.mono hb.size)
  have hs := h.size
  exact ⟨hr5, ((hr5.set 0 (.int .i64 0)).set 1 (.bool false)).set 2 (.slice none 0 0), ((hb5.setCell hs _).setCell hs _).setCell hs _⟩
set_option maxHeartbeats 8000000 in
theorem shardNobody_walk (n kd x K : Int) (A : Option Addr) (ln c : Nat) (s : ByteArray) (w : World) (hT : Tab w w.heap.size) (hP : Tabs w w.heap.size) :
    Calls Tryz.prog 6 #[.int .i64 n, .agg #[.int .i64 kd, .int .i64 x, .slice A ln c, .int .i64 K], .string s] w (Gives (.bool true) w) := by
  obtain ⟨W1, hW1⟩ : ∃ W1, w.alloc (.cells #[.int .i64 kd, .int .i64 x, .slice A ln c, .int .i64 K] 29) = W1 := ⟨_, rfl⟩
  have b1 : Below w.heap.size w W1 := by rw [← hW1]; exact (Below.refl _ _).alloc (Nat.le_refl _) _
  have r1 : Row W1 w.heap.size 29 [.int .i64 kd, .int .i64 x, .slice A ln c, .int .i64 K] := by rw [← hW1]; exact Row.new w 29 [.int .i64 kd, .int .i64 x, .slice A ln c, .int .i64 K]
  have s1 : W1.heap.size = w.heap.size + 1 := by rw [← hW1]; simp
  have HS1 := Lib.hid s1
  have HW1 := Lib.hid hW1
  have HB1 := Lib.hid b1
  have HR1 := Lib.hid r1
  have HN := Lib.hid (a_new 8 (by omega) (by omega) W1)
  have HT := Lib.hid hT
  have HP := Lib.hid hP
  clear hW1 b1 r1 s1 hT hP
  go_enter Tryz.func6, Tryz.ntmps6
  go_wp2_with fail
  rw [HW1.out]
  go_wp2_with fail
  refine HN.out.mono ?_
  rintro e w2 ⟨d, F, rfl, hD, hF, hb2⟩
  have HB2 := Lib.hid (HB1.out.trans (hb2.mono HB1.out.size))
  have HR2 := Lib.hid (HR1.out.keep (hb2.block _ HR1.out.lt))
  have HO := Lib.hid (sopen_new (B := w.heap.size + 1) (w := w2) ⟨HT.out.t1.below HB2.out HT.out.pos, by omega, by have := HR2.out.lt; omega⟩ (HP.out.on HB2.out |>.up (by omega)) hD (fun b hb => by have := hF b hb; have := HS1.out; omega) n)
  clear hD hF hb2 HN
  go_wp2_with fail
  refine HO.out.mono ?_
  intro e w3 hpost
  obtain ⟨v9, e10, rfl, hb3, hv⟩ := hpost
  have HV := Lib.hid hv
  have HB3 := Lib.hid (HB2.out.trans (hb3.mono (Nat.le_succ _)))
  have HR3 := Lib.hid (HR2.out.keep (hb3.block _ (Nat.lt_succ_self _)))
  clear hb3 hv HO
  go_upto_region 5 with fail
  go_cut [66] from 43 to 66 (fun s66 wc => s66 = .bool false ∧ wc = w3)
  case first =>
    rcases HV.out with ⟨h1, h2, s9, rfl, rfl⟩ | ⟨h, rfl, rfl⟩
    · have h1' : ¬ n < 1 := by omega
      have h2' : ¬ 16 < n := by omega
      clear HV
      go_wp2_with fail
      go_meet
      exact ⟨rfl, rfl⟩
    · clear HV
      rcases h with h | h
      · have h1' : ¬ 1 ≤ n := by omega
        go_wp2_with fail
        go_meet
        exact ⟨rfl, rfl⟩
      · have h1' : 1 ≤ n := by omega
        have h2' : ¬ n ≤ 16 := by omega
        go_wp2_with fail
        go_meet
        exact ⟨rfl, rfl⟩
  case rest =>
  obtain ⟨rfl, rfl⟩ := hcut
  have HON := Lib.hid (sopen_nil wc)
  obtain ⟨W3, hW3⟩ : ∃ W3, (wc.alloc (.cells #[.pointer none, .pointer none, .pointer none] 75)).alloc (.cells #[.pointer none, .pointer (some ⟨wc.heap.size, 0, none⟩)] 37) = W3 := ⟨_, rfl⟩
  have bc : Below wc.heap.size wc W3 := by rw [← hW3]; exact ((Below.refl _ _).alloc (Nat.le_refl _) _).alloc (by simp) _
  have rs : Row W3 wc.heap.size 75 [.pointer none, .pointer none, .pointer none] := by
    rw [← hW3]
    exact (Row.new wc 75 [.pointer none, .pointer none, .pointer none]).keep (heap_alloc_lt _ _ (by simp))
  have rg : Row W3 (wc.heap.size + 1) 37 [.pointer none, .pointer (some ⟨wc.heap.size, 0, none⟩)] := by
    rw [← hW3]
    have := Row.new (wc.alloc (.cells #[.pointer none, .pointer none, .pointer none] 75)) 37 [.pointer none, .pointer (some ⟨wc.heap.size, 0, none⟩)]
    rw [World.size_alloc] at this
    exact this
  have ro : Row W3 w.heap.size 29 [.int .i64 kd, .int .i64 x, .slice A ln c, .int .i64 K] := HR3.out.keep (bc.block _ HR3.out.lt)
  obtain ⟨g, hg⟩ : ∃ g, g = wc.heap.size + 1 := ⟨_, rfl⟩
  have pk : ∀ i, i < 2 → ∃ r, ∀ wx, Below W3.heap.size W3 wx → NbW w g i r kd x K A ln c wx := by
    intro i hi
    rw [hg]
    rcases (show i = 0 ∨ i = 1 by omega) with rfl | rfl
    · exact ⟨.pointer none, fun wx hb => NbW.below ⟨rg.cell (j := 0) rfl, .inl rfl, rg.lt, ro⟩ hb⟩
    · exact ⟨.pointer (some ⟨wc.heap.size, 0, none⟩), fun wx hb => NbW.below ⟨rg.cell (j := 1) rfl, .inr ⟨_, rfl, rs⟩, rg.lt, ro⟩ hb⟩
  have PK := Lib.hid pk
  have HW3 := Lib.hid hW3
  have HG := Lib.hid hg
  have HB4 := Lib.hid (HB3.out.trans (bc.mono HB3.out.size))
  have HAW := Lib.hid (fun (wr : World) (h : Below w.heap.size w wr) => sawake_any (B := w.heap.size) wr (HT.out.on h) (HP.out.on h))
  clear HV hW3 bc rs rg ro pk hg
  go_wp2_with (with_reducible refine HON.out.mono ?_; rintro e w4 ⟨rfl, rfl⟩)
  rw [HW3.out, ← HG.out]
  clear HON HW3 HR3 HB3 HT HP HB2 HR2 HR1 HB1 HW1
  go_loopw [14] (fun vi wr => ∃ i : Nat, i ≤ 2 ∧ vi = .int .i64 i ∧ Hid (Below W3.heap.size W3 wr)) (fun vi _ => 2 - (intOf vi).toNat)
  case atStart => exact ⟨0, by omega, rfl, Lib.hid (Below.refl _ _)⟩
  case round =>
    obtain ⟨i, hi2, rfl, HB⟩ := hrel
    by_cases hlt : i < 2
    · obtain ⟨r, hr⟩ := PK.out i hlt
      have HNB := Lib.hid hr
      clear hr
      have hltz : (i : Int) < 2 := by omega
      have hge : (0 : Int) ≤ (i : Int) := by omega
      have HST := Lib.hid (ns_stands (HNB.out wr HB.out).no)
      obtain ⟨e0, o0, o1, o2, o3⟩ := (HNB.out wr HB.out).cells
      have gl := (HNB.out wr HB.out).gl
      have ol := (HNB.out wr HB.out).op.lt
      go_wp2_with (with_reducible refine HST.out.mono ?_; rintro e w6 ⟨rfl, rfl⟩)
      have HWa := Lib.hid (ns_write (HNB.out wr.drew HB.out.drew).no 0 1 kd x K A ln c)
      have HWb := Lib.hid (ns_write (HNB.out (wr.alloc (.cells #[.int .i64 0, .bool false, .slice none 0 0] 52)).drew (HB.out.alloc HB.out.size _).drew).no 0 1 kd x K A ln c)
      have HS0 := Lib.hid (HNB.out wr HB.out).cells
      clear HST HAW HB4
      go_upto_region 15 with fail
      go_cut [19, 20] from 96 to 104 (fun s19 s20 wd => ∃ y : Nat, s19 = .pointer (some ⟨y, 0, none⟩) ∧ s20 = .int .i64 1 ∧ Hid (RP W3 y wd))
      case first =>
        go_region_held3 (fun w' => w'.cell? ⟨g, i, none⟩ = some r ∧ w'.cell? ⟨w.heap.size, 0, none⟩ = some (.int .i64 kd) ∧ w'.cell? ⟨w.heap.size, 1, none⟩ = some (.int .i64 x) ∧ w'.cell? ⟨w.heap.size, 2, none⟩ = some (.slice A ln c) ∧ w'.cell? ⟨w.heap.size, 3, none⟩ = some (.int .i64 K))
          (first | exact HS0.out | exact HS5.out | exact HS6.out | go_keep)
          (first
            | (go_at_call 16; with_reducible refine HWa.out.mono ?_; intro e w5 hpost; obtain ⟨rfl, hb5⟩ := hpost; have HBa := Lib.hid (HB.out.drew.trans (hb5.mono HB.out.drew.size)); have HP := Lib.hid (rp_last HBa.out); have HS5 := Lib.hid (HNB.out w5 HBa.out).cells; have HS6 := Lib.hid (HNB.out _ HP.out.bel).cells; clear hb5)
            | (go_at_call 16; with_reducible refine HWb.out.mono ?_; intro e w5 hpost; obtain ⟨rfl, hb5⟩ := hpost; have HBa := Lib.hid ((HB.out.alloc HB.out.size _).drew.trans (hb5.mono (HB.out.alloc HB.out.size _).drew.size)); have HP := Lib.hid (rp_set HB.out hb5); have HS5 := Lib.hid (HNB.out w5 HBa.out).cells; have HS6 := Lib.hid (HNB.out _ HP.out.2.bel).cells; have hob := HP.out.1; have q0 := hob.cell (j := 0) rfl; have q1 := hob.cell (j := 1) rfl; have q2 := hob.cell (j := 2) rfl; have of0 := hob.frozen 0; have of1 := hob.frozen 1; have of2 := hob.frozen 2; have ql := hob.lt; clear hb5 hob))
        all_goals
          go_wp2_with fail
          go_meet
        · exact ⟨_, rfl, rfl, Lib.hid HP.out⟩
        · exact ⟨_, rfl, rfl, Lib.hid HP.out.2⟩
      case rest =>
      obtain ⟨y, rfl, rfl, HY⟩ := hcut
      obtain ⟨wd, hwd⟩ : ∃ wd, wd = wc := ⟨_, rfl⟩
      subst hwd
      have hbd := HY.out.bel.drew
      have hN := (HNB.out wd.drew hbd).no
      have HAS := Lib.hid (ns_ask hN A ln c 1 1)
      have HTX := Lib.hid (ns_text hN)
      have HSI := Lib.hid (ns_since hN 0)
      have HFO := Lib.hid (ns_found hN 1)
      have HLO := Lib.hid (ns_load hN 1 s)
      have HSE := Lib.hid (ns_seal hN 1)
      have HAD := Lib.hid (ns_adopt hN 1 1 s)
      have HFG := Lib.hid (ns_forget hN 1)
      have HRE := Lib.hid (ns_reopen hN 1 1)
      have HPO := Lib.hid (ns_points hN)
      have HSd := Lib.hid (HNB.out wd HY.out.bel).cells
      have HSe := Lib.hid (HNB.out wd.drew hbd).cells
      have HBD := Lib.hid hbd
      have hy : Row wd.drew y 52 [.int .i64 0, .bool false, .slice none 0 0] := HY.out.row
      have y1 := hy.cell (j := 1) (u := .bool false) rfl
      have yl := hy.lt
      clear hN hbd hy e0 o0 o1 o2 o3 gl ol HWa HWb HS0 HB
      obtain ⟨e0, o0, o1, o2, o3⟩ := HSd.out
      have gl := (HNB.out wd HY.out.bel).gl
      have ol := (HNB.out wd HY.out.bel).op.lt
      go_wp2_with fail
      go_region_held3 (fun w' => w'.cell? ⟨g, i, none⟩ = some r ∧ w'.cell? ⟨w.heap.size, 0, none⟩ = some (.int .i64 kd) ∧ w'.cell? ⟨w.heap.size, 1, none⟩ = some (.int .i64 x) ∧ w'.cell? ⟨w.heap.size, 2, none⟩ = some (.slice A ln c) ∧ w'.cell? ⟨w.heap.size, 3, none⟩ = some (.int .i64 K))
        (first | exact HSd.out | exact HSe.out | go_keep)
        ((go_at_call 31; with_reducible refine HAS.out.mono ?_; rintro e w7 ⟨rfl, rfl⟩))
      clear HAS HSd HSe HNB o0 o1 o2 o3 ol
      go_wp2_with (first | (with_reducible refine HTX.out.mono ?_; rintro e w8 ⟨rfl, rfl⟩) | (with_reducible refine HSI.out.mono ?_; rintro e w8 ⟨rfl, rfl⟩) | (with_reducible refine HFO.out.mono ?_; rintro e w8 ⟨rfl, rfl⟩) | (with_reducible refine HLO.out.mono ?_; rintro e w8 ⟨rfl, rfl⟩) | (with_reducible refine HSE.out.mono ?_; rintro e w8 ⟨rfl, rfl⟩) | (with_reducible refine HAD.out.mono ?_; rintro e w8 ⟨rfl, rfl⟩) | (with_reducible refine HFG.out.mono ?_; rintro e w8 ⟨rfl, rfl⟩) | (with_reducible refine HRE.out.mono ?_; rintro e w8 ⟨rfl, rfl⟩) | (with_reducible refine HPO.out.mono ?_; rintro e w8 ⟨rfl, rfl⟩))
      go_roundw
      case rel => exact ⟨i + 1, by omega, by go_num, HBD⟩
      case measure => simp [intOf]; omega
    · go_wp2_with fail
      refine (HAW.out wr (HB4.out.trans (HB.out.mono HB4.out.size))).mono ?_
      rintro e w2 ⟨rfl, hb2⟩
      go_wp2_with fail
      go_ret
      exact ⟨rfl, (HB4.out.trans (HB.out.mono HB4.out.size)).trans hb2⟩
end Go.Proofs.YtegjjhjgfkcbhaaGreatDoor
end
