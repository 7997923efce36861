/- What lay, given and areNodes of package ring do. Conditions: a ring that is being laid, in memory. -/
import Derived.Test.YtmepahlmbopacaaDoorGMap
set_option linter.unusedVariables false
set_option linter.unusedSimpArgs false
set_option maxRecDepth 100000
namespace Go.Proofs.YtmepahlmbopacaaDoor
open Go Go.RowKit Go.Maps
section
variable {w w' : World} {base p bm : Nat} {nv pv : Value} {ns PL : List Int} {f : Int → Option Int} {Z : List (Int × Int)}
/-- One more is laid; below B nothing turns. -/
def Laid (w : World) (base p bm : Nat) (nv : Value) (ns : List Int) (Z : List (Int × Int)) (e : Ending) (w' : World) : Prop :=
  e = .returned (.tuple #[]) ∧ ∃ pv PL f, Lay w' base p bm nv ns pv PL f Z ∧ w.heap.size ≤ w'.heap.size ∧ ∀ B, B ≤ p → B ≤ bm → Below B w w'
theorem lay_any (h : Lay w base p bm nv ns pv PL f Z) (n q : Int) (hq : InR q) (hZ : Z.length ≤ 10000) :
    Calls Tryd.prog 36 #[.pointer (some ⟨p, 0, none⟩), .int .i64 n, .int .i64 q] w (Laid w base p bm nv ns (Z ++ [(n, q)])) := by
  have hwq := wf_in hq
  obtain ⟨v, hlook, hv⟩ := h.map.look2 hwq
  have c3 := h.c3
  have hlp := h.lp
  have hsz := h.sz
  have hpl : p < w.heap.size := by omega
  rcases hf : f q with _ | o
  · rw [hf] at hlook
    obtain ⟨w1, hrun, hm, hg⟩ := h.map.ins (m := n) hwq (by omega)
    have r1 := h.row.keep (hg.block p hpl (by have := h.ne; simp; omega))
    have c31 := r1.cell (j := 3) rfl
    have c21 := r1.cell (j := 2) rfl
    have z21 := r1.frozen 2
    have l1 := r1.lt
    have hsz1 := hg.size
    have hF1 : Fam w1 base 3 1 ([(nv, ns.length, ints ns)] ++ (pv, PL.length, ints PL) :: []) := ⟨fun q hq => (h.fam.1 q hq).kept hg (by
      rcases hv : q.1.ownBlock with _ | g
      · exact .inl rfl
      · have := ((h.fam.1 q hq).lt g hv).1
        have := h.lb
        exact .inr (by simp; omega)), h.fam.2⟩
    have hlen : PL.length ≤ 1000000 := by have := h.rs.len; omega
    have HH := Lib.hid (And.intro h (And.intro hm (And.intro hg (And.intro hF1 (And.intro hf hq)))))
    have hb1 : base ≤ w1.heap.size := by omega
    clear h hm hg hv hf hwq hq
    go_enter Tryd.func36, Tryd.ntmps36
    go_wp2_with (at_builtin; refine append_fam rfl (.tmp 36) (.tmp 38) rfl base [(nv, ns.length, ints ns)] [] pv PL.length PL q rfl HH.out.2.2.2.1 w1.heap.size rfl rfl hlen hb1 ?_; intro pv' w2 hF2 hb2 hs2; obtain ⟨A1, cp1, rfl, q1, q2⟩ := own_shape (hF2.own (v := pv') (n := PL.length + 1) (xs := ints (PL ++ [q])) (by simp)); have hrow := r1.keep (hb2.block p hlp); have zz := hrow.frozen 2; have cc := hrow.cell (j := 2) rfl; have ll := hrow.lt)
    go_end0
    obtain ⟨h, hm, hg, hF1, hf, hq⟩ := HH.out
    have hF3 : Fam w2 base 3 1 [(nv, ns.length, ints ns), (.slice A1 (PL.length + 1) cp1, (PL ++ [q]).length, ints (PL ++ [q]))] := by simpa using hF2
    have hm' : MapF w1 bm (Z ++ [(n, q)]).length (upd f q n) := by simpa using hm
    refine ⟨rfl, _, _, _, (Lay.more r1 h.lp h.lb h.ne hb1 hF3 hb2 hs2 hm' (h.rs.new hq hf)), ?_, fun B hBp hBb => ?_⟩
    · simp
      omega
    · exact below_setCell (((below_of_grown hg hBb (by omega)).trans (hb2.mono (by omega)))) hBp _
  · rw [hf] at hlook
    obtain rfl := hv o hf
    have key : ∀ m : Int, m = min n o → (∀ w1, (Instr.mapUpdate 67 (.map (some bm)) (.int .i64 q) (.int .i64 m)).run Tryd.prog w = .ok () w1 → Calls Tryd.prog 36 #[.pointer (some ⟨p, 0, none⟩), .int .i64 n, .int .i64 q] w fun e w' => e = .returned (.tuple #[]) ∧ w1 = w') →
        Calls Tryd.prog 36 #[.pointer (some ⟨p, 0, none⟩), .int .i64 n, .int .i64 q] w (Laid w base p bm nv ns (Z ++ [(n, q)])) := by
      intro m hm hc
      obtain ⟨w1, hrun, hmap, hg⟩ := h.map.ins (m := m) hwq (by omega)
      refine (hc w1 hrun).mono ?_
      rintro e w' ⟨rfl, rfl⟩
      have hmap' : MapF w1 bm (Z ++ [(n, q)]).length (upd f q (min n o)) := by rw [← hm]; simpa using hmap
      exact ⟨rfl, pv, PL, _, h.remap hmap' hg (h.rs.old hf), hg.size, fun B hBp hBb => below_of_grown hg hBb (by omega)⟩
    rcases Int.lt_trichotomy n o with hlt | rfl | hlt
    · refine key n (by omega) fun w1 hrun => ?_
      have h2 : ¬ o < n := by omega
      clear key h hv hf hwq hq
      go_enter Tryd.func36, Tryd.ntmps36
      go_wp2
      refine bodyPost_ret (results_none (by rfl) _ _ _) rfl ?_
      exact ⟨rfl, rfl⟩
    · refine key n (by omega) fun w1 hrun => ?_
      have h2 : ¬ n < n := by omega
      clear key h hv hf hwq hq
      go_enter Tryd.func36, Tryd.ntmps36
      go_wp2
      refine bodyPost_ret (results_none (by rfl) _ _ _) rfl ?_
      exact ⟨rfl, rfl⟩
    · refine key o (by omega) fun w1 hrun => ?_
      have h2 : ¬ n < o := by omega
      clear key h hv hf hwq hq
      go_enter Tryd.func36, Tryd.ntmps36
      go_wp2
      refine bodyPost_ret (results_none (by rfl) _ _ _) rfl ?_
      exact ⟨rfl, rfl⟩
end
end Go.Proofs.YtmepahlmbopacaaDoor
