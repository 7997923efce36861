/- What given and Home of a ring return. Conditions: a ring that New gave, in memory; or none. -/
import Derived.Test.YtmepahlmbopacaaDoorGNew
import Derived.Test.YtmepahlmbopacaaDoorSrch
set_option linter.unusedVariables false
set_option linter.unusedSimpArgs false
set_option maxRecDepth 100000
namespace Go.Proofs.YtmepahlmbopacaaDoor
open Go Go.RowKit Go.Maps
open Go.Sort (grow)
theorem ring_row : (Tryd.prog.info? 69).map (fun i => i.size) = some 4 := by kernel_rfl
theorem geql_self (p : Nat) (w : World) : (binOp .eql 45 (.pointer (some ⟨p, 0, none⟩)) (.pointer (some ⟨p, 0, none⟩))).run Tryd.prog w = .ok (.bool true) w := by
  obtain ⟨i, hi, _⟩ := Option.map_eq_some_iff.1 ring_row
  exact run_eql_ptr_same w _ Tryd.underlying45 hi
theorem geql_nil (p : Nat) (w : World) : (binOp .eql 45 (.pointer none) (.pointer (some ⟨p, 0, none⟩))).run Tryd.prog w = .ok (.bool false) w := by kernel_rfl
/-- Whether a ring was given. -/
def GivenIs (v : Value) (g : Bool) (w : World) : Prop := Calls Tryd.prog 39 #[v] w fun e w' => e = .returned (.bool g) ∧ w = w'
theorem given_any {w : World} {p : Nat} {x y z : Value} (h : Row w p 69 [.pointer (some ⟨p, 0, none⟩), x, y, z]) : GivenIs (.pointer (some ⟨p, 0, none⟩)) true w := by
  have h0 := h.cell (j := 0) rfl
  have he := geql_self p w
  unfold GivenIs
  clear h
  go_enter Tryd.func39, Tryd.ntmps39
  go_wp2
  go_ret
  exact ⟨rfl, rfl⟩
theorem given_nil (w : World) : GivenIs (.pointer none) false w := by
  unfold GivenIs
  go_enter Tryd.func39, Tryd.ntmps39
  go_wp2
  go_ret
  exact ⟨rfl, rfl⟩
theorem given_not {w : World} {p : Nat} {x y z : Value} (h : Row w p 69 [.pointer none, x, y, z]) : GivenIs (.pointer (some ⟨p, 0, none⟩)) false w := by
  have h0 := h.cell (j := 0) rfl
  have he := geql_nil p w
  unfold GivenIs
  clear h
  go_enter Tryd.func39, Tryd.ntmps39
  go_wp2
  go_ret
  exact ⟨rfl, rfl⟩
/-- Of a ring that was not given, or a place that is none: ErrArg. -/
theorem home_no {w : World} {v : Option Addr} {g : Bool} (hg : ∀ w', Below w.heap.size w w' → GivenIs (.pointer v) g w') (s : Int) (hs : g = false ∨ s < 0 ∨ 16777215 < s) :
    Calls Tryd.prog 41 #[.pointer v, .int .i64 s] w (Gives (.tuple #[.int .i64 0, .int .i64 1]) w) := by
  obtain ⟨W, hW⟩ : ∃ W, W = (w.alloc (.cells #[.pointer v] 45)).alloc (.cells #[.int .i64 s] 3) := ⟨_, rfl⟩
  have hB : Below w.heap.size w W := by rw [hW]; exact ((Below.refl _ w).alloc (Nat.le_refl _) _).alloc (by simp) _
  have b2 : W.cell? ⟨w.heap.size + 1, 0, none⟩ = some (.int .i64 s) := by
    rw [hW]
    have := (Box.new (w.alloc (.cells #[.pointer v] 45)) 3 (.int .i64 s)).cell
    rwa [World.size_alloc] at this
  have l2 : w.heap.size + 1 < W.heap.size := by rw [hW]; simp
  have hg := hg _ hB
  unfold GivenIs at hg
  have HG := Lib.hid hg
  have HW := Lib.hid hW
  have HB := Lib.hid hB
  clear hg hW hB
  rcases g with _ | _
  · clear hs
    go_enter Tryd.func41, Tryd.ntmps41
    go_wp2_with fail
    rw [← HW.out]
    refine HG.out.mono ?_
    rintro e w1 ⟨rfl, rfl⟩
    go_wp2_with fail
    go_ret2
    exact ⟨rfl, HB.out⟩
  · have hs : s < 0 ∨ 16777215 < s := by simpa using hs
    rcases hs with hs | hs
    · go_enter Tryd.func41, Tryd.ntmps41
      go_wp2_with fail
      rw [← HW.out]
      refine HG.out.mono ?_
      rintro e w1 ⟨rfl, rfl⟩
      go_wp2_with fail
      go_ret2
      exact ⟨rfl, HB.out⟩
    · have h0 : ¬ s < 0 := by omega
      go_enter Tryd.func41, Tryd.ntmps41
      go_wp2_with fail
      rw [← HW.out]
      refine HG.out.mono ?_
      rintro e w1 ⟨rfl, rfl⟩
      go_wp2_with fail
      go_ret2
      exact ⟨rfl, HB.out⟩
/-- What the search asks: is the place no less? -/
theorem clo_any {w : World} {p b c : Nat} {s : Int} {nv mv : Value} {A : Option Addr} {cp : Nat} {PS : List Int} (hr : Row w p 69 [.pointer (some ⟨p, 0, none⟩), nv, .slice A PS.length cp, mv]) (hR : Reads w w.heap.size 1 A PS.length (ints PS))
    (hb : w.cell? ⟨b, 0, none⟩ = some (.pointer (some ⟨p, 0, none⟩))) (hbl : b < w.heap.size) (hc : w.cell? ⟨c, 0, none⟩ = some (.int .i64 s)) (hcl : c < w.heap.size) (i : Nat) (hi : i < PS.length) :
    Calls Tryd.prog 56 #[.int .i64 (i : Int), .pointer (some ⟨b, 0, none⟩), .pointer (some ⟨c, 0, none⟩)] w fun e w' => e = .returned (.bool (decide (s ≤ PS.getD i 0))) ∧ ∃ q, w' = w.drewN q := by
  obtain ⟨ad, rfl, hab, hx⟩ := hR.int_at hi
  have c2 := hr.cell (j := 2) rfl
  have lp := hr.lt
  have hadl : (ad.add i).block < w.heap.size := by rw [block_of_add]; exact hab
  have hiz : (i : Int) < (PS.length : Int) := by omega
  generalize PS.getD i 0 = x at *
  generalize PS.length = n at *
  clear hr hR
  go_enter Tryd.func56, Tryd.ntmps56
  go_wp2_with fail
  go_quiet (fail)
  go_wp2_with fail
  go_ret
  exact ⟨rfl, _, rfl⟩
theorem enters (n : Nat) (args : Array Value) (w : World) : (callFunc 56 args).run Tryd.prog w = .ok (.enter 56 args) w := enters_of Tryd.func56 (by kernel_rfl) rfl args w
set_option maxHeartbeats 2000000 in
theorem home_any {w : World} {p : Nat} {Z : List (Int × Int)} (h : IsRing w p Z) (hZ : Z.length ≤ 100000) (s : Int) (hS : InR s) : Calls Tryd.prog 41 #[.pointer (some ⟨p, 0, none⟩), .int .i64 s] w fun e w' =>
    ∃ m er, e = .returned (.tuple #[.int .i64 m, .int .i64 er]) ∧ (Z = [] → m = 0 ∧ er = 3) ∧ (Z ≠ [] → er = 0 ∧ IsHome Z s m) ∧ Below w.heap.size w w' := by
  obtain ⟨nv, A, c, bm, PS, PL, f, h⟩ := h
  obtain ⟨W, hW⟩ : ∃ W, W = (w.alloc (.cells #[.pointer (some ⟨p, 0, none⟩)] 45)).alloc (.cells #[.int .i64 s] 3) := ⟨_, rfl⟩
  have hB : Below w.heap.size w W := by rw [hW]; exact ((Below.refl _ w).alloc (Nat.le_refl _) _).alloc (by simp) _
  have b2 : W.cell? ⟨w.heap.size + 1, 0, none⟩ = some (.int .i64 s) := by
    rw [hW]
    have := (Box.new (w.alloc (.cells #[.pointer (some ⟨p, 0, none⟩)] 45)) 3 (.int .i64 s)).cell
    rwa [World.size_alloc] at this
  have b1 : W.cell? ⟨w.heap.size, 0, none⟩ = some (.pointer (some ⟨p, 0, none⟩)) := by
    rw [hW]
    exact ((Box.new w 45 (.pointer (some ⟨p, 0, none⟩))).keep (heap_alloc_lt _ _ (by simp))).cell
  have l2 : w.heap.size + 1 < W.heap.size := by rw [hW]; simp
  have l1 : w.heap.size < W.heap.size := by omega
  have hr := h.row.keep (hB.block p h.row.lt)
  have hR := (h.reads.below hB).more hB.size
  have hM := h.map.keep (hB.block bm h.map.lt)
  have HG := Lib.hid (given_any hr)
  unfold GivenIs at HG
  have s0 : ¬ s < 0 := by unfold InR at hS; omega
  have s1 : ¬ (16777215 : Int) < s := by unfold InR at hS; omega
  have c2 := hr.cell (j := 2) rfl
  have c3 := hr.cell (j := 3) rfl
  have lp := hr.lt
  have HW := Lib.hid hW
  have HB := Lib.hid hB
  have hPS : PS.length ≤ 100000 := by rw [h.perm.length_eq]; have := h.rs.len; omega
  by_cases h0 : PS.length = 0
  · have hZ0 : Z = [] := by
      have e1 : PL = [] := List.eq_nil_of_length_eq_zero (by rw [← h.perm.length_eq]; exact h0)
      rcases hz : Z with _ | ⟨x, r⟩
      · rfl
      · have := (h.rs.mem x.2).2 ⟨x.1, by rw [hz]; simp⟩
        rw [e1] at this
        simp at this
    rw [h0] at c2
    clear hr hR hM h hW hB
    go_enter Tryd.func41, Tryd.ntmps41
    go_wp2_with fail
    rw [← HW.out]
    refine HG.out.mono ?_
    rintro e w1 ⟨rfl, rfl⟩
    go_wp2_with fail
    go_ret2
    exact ⟨0, 3, rfl, fun _ => ⟨rfl, rfl⟩, fun hne => absurd hZ0 hne, HB.out⟩
  · have hn : 0 < PS.length := by omega
    obtain ⟨m, hm, hH⟩ := home_is h.rs h.perm h.sorted hS hn
    have hlt := first_lt h.sorted s hn
    obtain ⟨ad, hA, hab, hx⟩ := hR.int_at hlt
    have hZ1 : Z ≠ [] := by
      rintro rfl
      have e1 := h.rs.len
      have e2 := h.perm.length_eq
      rw [List.length_nil] at e1
      omega
    have hin : InR (PS.getD (firstOf PS s) 0) := by
      obtain ⟨k, hk⟩ : ∃ k, (k, PS.getD (firstOf PS s) 0) ∈ Z := by
        refine (h.rs.mem _).1 (h.perm.mem_iff.1 ?_)
        rw [List.getD_eq_getElem?_getD, List.getElem?_eq_getElem hlt]
        exact List.getElem_mem _
      exact h.rs.ok _ hk
    have hS := Any.sort_Search Tryd.search 56 #[.pointer (some ⟨w.heap.size, 0, none⟩), .pointer (some ⟨w.heap.size + 1, 0, none⟩)] PS.length (fun i => decide (s ≤ PS.getD i 0)) W (enters 0) (by omega)
      (fun m os i hi => by
        have hb := below_grown_sl W.heap.size W m os (Nat.le_refl _)
        exact (clo_any (hr.keep (hb.block p lp)) ((hR.below hb).more hb.size) (by rw [hb.cell l1]; exact b1) (Nat.lt_of_lt_of_le l1 hb.size) (by rw [hb.cell l2]; exact b2) (Nat.lt_of_lt_of_le l2 hb.size) i hi).mono fun _ _ ⟨he, q, hq⟩ => ⟨he, q, #[], by rw [hq, Go.Sort.grow_empty]⟩)
      (fun a b hab hb ha => by
        have := sorted_get h.sorted hab hb
        simp only [decide_eq_true_eq] at *
        omega)
    change Calls Tryd.prog 55 _ _ _ at hS
    have hS1 : Calls Tryd.prog 55 #[.int .i64 (PS.length : Int), .func (.func 56) #[] #[.pointer (some ⟨w.heap.size, 0, none⟩), .pointer (some ⟨w.heap.size + 1, 0, none⟩)]] W fun e w' => e = .returned (.int .i64 ((upto PS s : Nat) : Int)) ∧ Below W.heap.size W w' :=
      hS.mono fun e w' ⟨he, q, os, hq⟩ => ⟨he, by rw [hq]; exact below_grown_sl W.heap.size W q os (Nat.le_refl _)⟩
    have HS := Lib.hid hS1
    have h0z : ¬ (PS.length : Int) = 0 := by omega
    have HF := Lib.hid (show ∀ w3, Below W.heap.size W w3 → (∀ n, (Instr.lookup 67 (.map (some bm)) (.int .i64 (PS.getD (firstOf PS s) 0)) false).run Tryd.prog (w3.drewN n) = .ok (.int .i64 m) (w3.drewN n)) ∧ w3.cell? (ad.add (firstOf PS s)) = some (.int .i64 (PS.getD (firstOf PS s) 0)) ∧ (ad.add (firstOf PS s)).block < w3.heap.size ∧
        w3.cell? ⟨w.heap.size, 0, none⟩ = some (.pointer (some ⟨p, 0, none⟩)) ∧ w.heap.size < w3.heap.size ∧ w3.cell? ⟨p, 2, none⟩ = some (.slice (some ad) PS.length c) ∧ w3.cell? ⟨p, 3, none⟩ = some (.map (some bm)) ∧ p < w3.heap.size ∧ Below w.heap.size w w3 from fun w3 h3 =>
      ⟨fun n => (show MapF (w3.drewN n) bm Z.length f from hM.keep (h3.block bm hM.lt)).look1 (wf_in hin) hm, by rw [h3.cell (by rw [block_of_add]; exact hab)]; exact hx, by rw [block_of_add]; exact Nat.lt_of_lt_of_le hab h3.size, by rw [h3.cell l1]; exact b1, Nat.lt_of_lt_of_le l1 h3.size,
        by rw [h3.cell lp, ← hA]; exact c2, by rw [h3.cell lp]; exact c3, Nat.lt_of_lt_of_le lp h3.size, hB.trans (h3.mono hB.size)⟩)
    have hfu : firstOf PS s = if upto PS s = PS.length then 0 else upto PS s := rfl
    have huz : upto PS s ≤ PS.length := (upto_facts h.sorted s).1
    generalize PS.getD (firstOf PS s) 0 = x at *
    generalize firstOf PS s = k at *
    generalize upto PS s = u at *
    subst hA
    generalize PS.length = n at *
    have hk0 : (k : Int) < (n : Int) := by omega
    clear hr hR hM h hW hB hS hS1 hx hm hin
    by_cases hu : u = n
    · subst hu
      rw [if_pos rfl] at hfu
      subst hfu
      go_enter Tryd.func41, Tryd.ntmps41
      go_wp2_with fail
      rw [← HW.out]
      refine HG.out.mono ?_
      rintro e w1 ⟨rfl, rfl⟩
      go_wp2_with fail
      refine HS.out.mono ?_
      rintro e w3 ⟨rfl, h3⟩
      obtain ⟨f1, f2, f3, f4, f5, f6, f7, f8, f9⟩ := HF.out w3 h3
      have HB3 := Lib.hid f9
      clear f9 h3 b1 b2 l1 l2 c2 c3 lp
      have e0 : ad.add 0 = ad := by simp [Addr.add]
      rw [e0] at f2 f3
      have hk1 : (0 : Int) < (u : Int) := by omega
      clear hk0
      go_wp2_with fail
      go_quiet (fail)
      go_wp2_with fail
      go_ret2
      exact ⟨m, 0, rfl, fun hz => absurd hz hZ1, fun _ => ⟨rfl, hH⟩, below_drewN HB3.out _⟩
    · rw [if_neg hu] at hfu
      subst hfu
      have huz2 : ¬ (k : Int) = (n : Int) := by omega
      go_enter Tryd.func41, Tryd.ntmps41
      go_wp2_with fail
      rw [← HW.out]
      refine HG.out.mono ?_
      rintro e w1 ⟨rfl, rfl⟩
      go_wp2_with fail
      refine HS.out.mono ?_
      rintro e w3 ⟨rfl, h3⟩
      obtain ⟨f1, f2, f3, f4, f5, f6, f7, f8, f9⟩ := HF.out w3 h3
      have HB3 := Lib.hid f9
      clear f9 h3 b1 b2 l1 l2 c2 c3 lp
      go_wp2_with fail
      go_quiet (fail)
      go_wp2_with fail
      go_ret2
      exact ⟨m, 0, rfl, fun hz => absurd hz hZ1, fun _ => ⟨rfl, hH⟩, below_drewN HB3.out _⟩
end Go.Proofs.YtmepahlmbopacaaDoor
