/- What New of package ring gives: a ring in memory. Conditions: numbers of nodes, each there once; 1 to 64 places; the tables lie as start-up lays them. -/
import Derived.Test.YtmepahlmbopacaaDoorGSort
import Derived.Carry
set_option linter.unusedVariables false
set_option linter.unusedSimpArgs false
set_option maxRecDepth 100000
namespace Go.Proofs.YtmepahlmbopacaaDoor
open Go Go.RowKit Go.Maps
/-- The tables lie. -/
structure Four (w : World) : Prop where
  tab : TabW w
  tabs : Tabs w w.heap.size
theorem Four.on {w w' : World} (h : Four w) (hb : Below w.heap.size w w') : Four w' := ⟨h.tab.below hb h.tab.size, h.tabs.next hb⟩
def nodeB : ByteArray := ⟨#[110, 111, 100, 101]⟩
def sp (n : Int) (k : Nat) : Int := ((crcS (spotS nodeB n (k : Int))).toNat : Int)
theorem sp_in (n : Int) (k : Nat) : InR (sp n k) := by
  have := (crcS (spotS nodeB n (k : Int))).isLt
  unfold InR sp
  omega
def spots (n : Int) (P : Nat) : List (Int × Int) := (List.range P).map fun k => (n, sp n k)
def zof (l : List Int) (P : Nat) : List (Int × Int) := l.flatMap fun n => spots n P
theorem mem_zof {l : List Int} {P : Nat} {x : Int × Int} : x ∈ zof l P ↔ x.1 ∈ l ∧ ∃ k, k < P ∧ x.2 = sp x.1 k := by
  unfold zof spots
  rw [List.mem_flatMap]
  constructor
  · rintro ⟨n, hn, hx⟩
    obtain ⟨k, hk, rfl⟩ := List.mem_map.1 hx
    exact ⟨hn, k, by simpa using hk, rfl⟩
  · rintro ⟨h1, k, hk, h2⟩
    exact ⟨x.1, h1, List.mem_map.2 ⟨k, by simpa using hk, by rw [← h2]⟩⟩
theorem zof_snoc (l : List Int) (n : Int) (P : Nat) : zof (l ++ [n]) P = zof l P ++ spots n P := by simp [zof]
theorem spots_succ (n : Int) (k : Nat) : spots n (k + 1) = spots n k ++ [(n, sp n k)] := by simp [spots, List.range_succ]
theorem spots_len (n : Int) (k : Nat) : (spots n k).length = k := by simp [spots]
theorem zof_len (l : List Int) (P : Nat) : (zof l P).length = l.length * P := by
  induction l with
  | nil => simp [zof]
  | cons n r ih =>
    have : zof (n :: r) P = spots n P ++ zof r P := rfl
    rw [this, List.length_append, ih, spots_len, List.length_cons, Nat.add_mul]
    omega
/-- A ring in memory. -/
structure RingAt (w : World) (p : Nat) (Z : List (Int × Int)) (nv : Value) (A : Option Addr) (c bm : Nat) (PS PL : List Int) (f : Int → Option Int) : Prop where
  row : Row w p 69 [.pointer (some ⟨p, 0, none⟩), nv, .slice A PS.length c, .map (some bm)]
  reads : Reads w w.heap.size 1 A PS.length (ints PS)
  map : MapF w bm Z.length f
  rs : RS Z PL f
  perm : PS.Perm PL
  sorted : PS.Pairwise (· ≤ ·)
def IsRing (w : World) (p : Nat) (Z : List (Int × Int)) : Prop := ∃ nv A c bm PS PL f, RingAt w p Z nv A c bm PS PL f
theorem IsRing.on {w w' : World} {p : Nat} {Z : List (Int × Int)} (h : IsRing w p Z) (hb : Below w.heap.size w w') : IsRing w' p Z := by
  obtain ⟨nv, A, c, bm, PS, PL, f, h⟩ := h
  exact ⟨nv, A, c, bm, PS, PL, f, h.row.keep (hb.block p h.row.lt), (h.reads.below hb).more hb.size, h.map.keep (hb.block bm h.map.lt), h.rs, h.perm, h.sorted⟩
/-- A ring that is being laid, in a call that began at w0. -/
def At (w0 : World) (base p bm : Nat) (ns : List Int) (Z : List (Int × Int)) (w : World) : Prop :=
  ∃ nv pv PL f, Lay w base p bm nv ns pv PL f Z ∧ Below w0.heap.size w0 w
/-- Sorted, it is a ring. -/
theorem Lay.ring {w w1 : World} {base p bm : Nat} {nv pv : Value} {PL : List Int} {f : Int → Option Int} {Z : List (Int × Int)}
    (r : Row w p 69 [.pointer (some ⟨p, 0, none⟩), nv, pv, .map (some bm)]) (m : MapF w bm Z.length f) (rs : RS Z PL f) (hp : p < base) (hb : bm < base) (hsz : base ≤ w.heap.size)
    (own : w.ownsRow base 3 1 pv PL.length (ints PL)) (hs : ∃ A c, pv = .slice A (sortI PL).length c ∧ Reads w1 w1.heap.size 1 A (sortI PL).length (ints (sortI PL))) (hg : w.grownBy w1 pv.ownBlock) : IsRing w1 p Z := by
  obtain ⟨A, c, rfl, hR⟩ := hs
  have far : ∀ b, b < base → w1.heap[b]? = w.heap[b]? := fun b hb => hg.block b (by omega) (fun e => by have := (own.lt b e.symm).1; omega)
  exact ⟨nv, A, c, bm, sortI PL, PL, f, r.keep (far p hp), hR, m.keep (far bm hb), rs, sortI_perm PL, sortI_sorted PL⟩
set_option maxHeartbeats 4000000 in
theorem new_any {w : World} {A : Option Addr} {c : Nat} {l : List Int} (hR : Reads w w.heap.size 1 A l.length (ints l)) (hG : GoodN l) (hl : l.length ≤ 8) (P : Nat) (hP1 : 1 ≤ P) (hP : P ≤ 64) (hT : Four w) :
    Calls Tryd.prog 19 #[.slice A l.length c, .int .i64 (P : Int)] w fun e w' => ∃ p, e = .returned (.tuple #[.pointer (some ⟨p, 0, none⟩), .int .i64 0]) ∧ IsRing w' p (zof l P) ∧ Below w.heap.size w w' := by
  have HA := Lib.hid (areNodes_any (c := c) hR hG hl)
  have hp1 : ¬ (P : Int) < 1 := by omega
  have hp2 : ¬ (64 : Int) < (P : Int) := by omega
  have HR := Lib.hid hR
  have HT := Lib.hid hT
  generalize hM : l.length = M at *
  have HM := Lib.hid hM
  clear hM hR hT
  go_enter Tryd.func19, Tryd.ntmps19
  go_wp2_with fail
  refine HA.out.mono ?_
  rintro e w1 ⟨rfl, hb1⟩
  have hmm := @run_makeMap Tryd.prog
  obtain ⟨w0, hw0⟩ : ∃ w0, w0 = (w1.alloc (.map #[] 0)).alloc (.cells #[.pointer (some ⟨w1.heap.size + 1, 0, none⟩), .slice none 0 0, .slice none 0 0, .map (some w1.heap.size)] 69) := ⟨_, rfl⟩
  have hsz0 : w0.heap.size = w1.heap.size + 2 := by rw [hw0]; simp
  have r0 : Row w0 (w1.heap.size + 1) 69 [.pointer (some ⟨w1.heap.size + 1, 0, none⟩), .slice none 0 0, .slice none 0 0, .map (some w1.heap.size)] := by
    rw [hw0]
    have := Row.new (w1.alloc (.map #[] 0)) 69 [.pointer (some ⟨w1.heap.size + 1, 0, none⟩), .slice none 0 0, .slice none 0 0, .map (some w1.heap.size)]
    simpa using this
  have m0 : MapF w0 w1.heap.size 0 (fun _ => none) := by
    rw [hw0]
    exact (MapF.made w1).keep (heap_alloc_lt _ _ (by simp))
  have L0 : Lay w0 (w1.heap.size + 2) (w1.heap.size + 1) w1.heap.size (.slice none 0 0) [] (.slice none 0 0) [] (fun _ => none) [] :=
    ⟨r0, Fam.none_cons (Fam.none_cons Fam.nil), m0, RS.nil, by omega, by omega, by omega, by omega⟩
  have hb0 : Below w.heap.size w w0 := by
    rw [hw0]
    exact (hb1.alloc hb1.size _).alloc (by have := hb1.size; simp; omega) _
  have HW := Lib.hid hw0
  have HL0 := Lib.hid L0
  have HB0 := Lib.hid hb0
  have HS := Lib.hid hb1.size
  clear hw0 L0 hb0 m0 r0 hb1
  generalize hbase : w1.heap.size + 2 = base at *
  generalize hp : w1.heap.size + 1 = p at *
  generalize hbm : w1.heap.size = bm at *
  have HE := Lib.hid (And.intro hbase (And.intro hp hbm))
  clear hbase hp hbm
  go_wp2_with fail
  rw [HE.out.2.2, HE.out.2.1, ← HW.out]
  go_loopw [30] (fun i wr => ∃ k : Nat, k ≤ M ∧ i = .int .i64 (k : Int) ∧ At w base p bm (l.take k) (zof (l.take k) P) wr) (fun i _ => M - (intOf i).toNat)
  case atStart => exact ⟨0, Nat.zero_le _, rfl, _, _, _, _, HL0.out, HB0.out⟩
  case round =>
    obtain ⟨k, hk, rfl, nv, pv, PL, f, hL, hb⟩ := hrel
    by_cases hlt : k < M
    · have hltz : (k : Int) < (M : Int) := by omega
      obtain ⟨ad, rfl, hab, hc⟩ := (HR.out.below hb).int_at hlt
      obtain ⟨z, hz, hz8, hno, htk⟩ := good_cut hG (k := k) (by rw [HM.out]; exact hlt)
      rw [hz] at hc
      have hadl : (ad.add k).block < wr.heap.size := by rw [block_of_add]; have := hb.size; omega
      have c1 := hL.c1
      have lp := hL.row.lt
      have hbase1 := hL.sz
      have hlen1 : (l.take k).length ≤ 1000000 := by rw [List.length_take, HM.out]; omega
      have HL := Lib.hid (And.intro hL (And.intro hb htk))
      clear hL hb hno hz htk
      generalize l.take k = ns at *
      go_wp2_with (at_builtin; refine append_fam rfl (.tmp 38) (.tmp 40) rfl base [] [(pv, PL.length, ints PL)] nv ns.length ns (z : Int) rfl HL.out.1.fam wr.heap.size rfl rfl hlen1 hbase1 ?_; intro nv' w2 hF2 hb2 hs2; obtain ⟨A1, cp1, rfl, q1, q2⟩ := own_shape (hF2.own (v := nv') (n := ns.length + 1) (xs := ints (ns ++ [(z : Int)])) (by simp)); have hrow := HL.out.1.row.keep (hb2.block p HL.out.1.lp); have zz := hrow.frozen 1; have cc := hrow.cell (j := 1) rfl; have ll := hrow.lt)
      have h3 : At w base p bm (ns ++ [(z : Int)]) (zof ns P ++ spots (z : Int) 0) (w2.setCell ⟨p, 1, none⟩ (.slice A1 (ns.length + 1) cp1)) := by
        have hF3 : Fam w2 base 3 1 [(.slice A1 (ns.length + 1) cp1, (ns ++ [(z : Int)]).length, ints (ns ++ [(z : Int)])), (pv, PL.length, ints PL)] := by simpa using hF2
        have e0 : zof ns P ++ spots (z : Int) 0 = zof ns P := by simp [spots]
        have hp0 := HE.out.2.1
        have hbs := HS.out
        rw [e0]
        exact ⟨_, _, _, _, HL.out.1.node hF3 hb2 hs2, below_setCell (HL.out.2.1.trans (hb2.mono (by have := HL.out.1.lb; omega))) (by show w.heap.size ≤ p; omega) _⟩
      generalize w2.setCell ⟨p, 1, none⟩ (.slice A1 (ns.length + 1) cp1) = W3 at *
      have H3 := Lib.hid h3
      have HLEN : Hid ((zof ns P).length ≤ 600) := Lib.hid (by
        rw [zof_len]
        have h8 : ns.length ≤ 8 := by
          have h9 := congrArg List.length HL.out.2.2
          rw [List.length_append, List.length_take, HM.out] at h9
          simp at h9
          omega
        have := Nat.mul_le_mul h8 hP
        omega)
      have HTK := Lib.hid HL.out.2.2
      clear h3 hF2 hrow zz cc ll hb2 hs2 HL c1 lp hc hadl hbase1 hlen1 q1 q2
      go_loopw [45] (fun i wr => ∃ j : Nat, j ≤ P ∧ i = .int .i64 (j : Int) ∧ At w base p bm (ns ++ [(z : Int)]) (zof ns P ++ spots (z : Int) j) wr) (fun i _ => P - (intOf i).toNat)
      case atStart => exact ⟨0, Nat.zero_le _, rfl, H3.out⟩
      case round =>
        obtain ⟨j, hj, rfl, nv1, pv1, PL1, f1, hL1, hb1⟩ := hrel
        by_cases hjl : j < P
        · have hjz : (j : Int) < (P : Int) := by omega
          have HT1 := HT.out.on hb1
          have HSP := Lib.hid (spot_any nodeB (z : Int) (j : Int) wr ⟨by omega, by omega⟩ ⟨by omega, by omega⟩ (by decide) HT1.tab HT1.tabs)
          have HL1 := Lib.hid (And.intro hL1 hb1)
          clear hL1 hb1 HT1
          go_wp2_with fail
          refine HSP.out.mono ?_
          rintro e w4 ⟨rfl, hb4⟩
          have hlay := lay_any (HL1.out.1.on hb4) (z : Int) (sp (z : Int) j) (sp_in _ _) (by rw [List.length_append, spots_len]; have := HLEN.out; omega)
          rw [List.append_assoc, ← spots_succ] at hlay
          have HLAY := Lib.hid hlay
          have HB4 := Lib.hid (below_then HL1.out.2 hb4)
          clear hlay hb4 HSP HL1
          go_wp2_with fail
          refine HLAY.out.mono ?_
          rintro e w5 ⟨rfl, pv5, PL5, f5, hL5, hs5, hbel⟩
          have hbs := HS.out
          have hE2 := HE.out.2.1
          have H5 := Lib.hid (show At w base p bm (ns ++ [(z : Int)]) (zof ns P ++ spots (z : Int) (j + 1)) w5 from ⟨_, _, _, _, hL5, HB4.out.trans (hbel _ (by omega) (by omega))⟩)
          clear hL5 hs5 hbel HLAY hE2
          go_wp2_with fail
          exact ⟨⟨j + 1, hjl, by go_num, H5.out⟩, by simp [intOf]; omega⟩
        · obtain rfl : j = P := by omega
          have hnl : ¬ (j : Int) < (j : Int) := by omega
          have H5 := Lib.hid (show At w base p bm (l.take (k + 1)) (zof (l.take (k + 1)) j) wr from by rw [HTK.out, zof_snoc]; exact ⟨_, _, _, _, hL1, hb1⟩)
          clear hL1 hb1
          go_wp2_with fail
          exact ⟨⟨k + 1, hlt, by go_num, H5.out⟩, by simp [intOf]; omega⟩
    · obtain rfl : k = M := by omega
      have hnl : ¬ (k : Int) < (k : Int) := by omega
      have e0 : l.take k = l := List.take_of_length_le (by rw [HM.out]; exact Nat.le_refl _)
      rw [e0] at hL
      have own1 := hL.fam.own (v := nv) (n := l.length) (xs := ints l) (by simp)
      have own2 := hL.fam.own (v := pv) (n := PL.length) (xs := ints PL) (by simp)
      have hap : nv.ownBlock = none ∨ nv.ownBlock ≠ pv.ownBlock := by
        have := (List.pairwise_cons.1 hL.fam.2).1 (pv, PL.length, ints PL) (by simp)
        exact this
      have hlz : PL.length ≤ 1000 := by
        have h1 := hL.rs.len
        rw [zof_len, HM.out] at h1
        have := Nat.mul_le_mul hl hP
        omega
      have c1 := hL.c1
      have lp := hL.row.lt
      have hS1 := Lib.hid (sort_own own1 (by rw [HM.out]; omega))
      have HL := Lib.hid (And.intro hL (And.intro hb (And.intro own2 (And.intro hap hlz))))
      clear hL hb own1 own2 hap hlz
      go_wp2_with fail
      refine hS1.out.mono ?_
      rintro e w2 ⟨rfl, hg2, _⟩
      obtain ⟨hL, hb, own2, hap, hlz⟩ := HL.out
      have own1 := hL.fam.own (v := nv) (n := l.length) (xs := ints l) (by simp)
      have hbel1 : Below base wr w2 := below_own own1 hg2 hL.sz
      have r2 := hL.row.keep (hbel1.block p hL.lp)
      have m2 := hL.map.keep (hbel1.block bm hL.lb)
      have own3 := own2.kept hg2 (by
        rcases hv : pv.ownBlock with _ | g
        · exact .inl rfl
        · rcases hap with h | h
          · exact .inr (by rw [h]; simp)
          · exact .inr (by rw [hv] at h; exact fun e => h e.symm))
      have hsz2 : base ≤ w2.heap.size := Nat.le_trans hL.sz hbel1.size
      have c2 := r2.cell (j := 2) rfl
      have lp2 := r2.lt
      have hS2 := Lib.hid (sort_own own3 (by omega))
      have hE := HE.out
      have hbs := HS.out
      have HB := Lib.hid (hb.trans (hbel1.mono (show w.heap.size ≤ base by omega)))
      have HQ := Lib.hid (And.intro r2 (And.intro m2 (And.intro hL.rs (And.intro hL.lp (And.intro hL.lb (And.intro hsz2 own3))))))
      clear hL hb own2 hap hlz own1 hbel1 r2 m2 own3 hsz2 c1 lp hS1 HL hg2 hE
      go_wp2_with fail
      refine hS2.out.mono ?_
      rintro e w3 ⟨rfl, hg3, hR3⟩
      go_wp2_with fail
      go_ret2
      obtain ⟨r2, m2, rs, hlp, hlb, hsz2, own3⟩ := HQ.out
      have hE := HE.out
      exact ⟨p, rfl, Lay.ring r2 m2 rs hlp hlb hsz2 own3 hR3 hg3, HB.out.trans ((below_own own3 hg3 hsz2).mono (show w.heap.size ≤ base by omega))⟩
end Go.Proofs.YtmepahlmbopacaaDoor
