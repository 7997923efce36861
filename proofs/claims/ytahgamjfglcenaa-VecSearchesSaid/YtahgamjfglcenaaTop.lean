/- What Top of package vec returns: of each number the one that stands first, in order, the first k. Conditions: the slice reads as a list. -/
import Derived.Test.YtahgamjfglcenaaClone
import Derived.Test.YtahgamjfglcenaaSortK
set_option linter.unusedVariables false
set_option linter.unusedSimpArgs false
namespace Go.Proofs.Ytahgamjfglcenaa
open Go Go.RowKit
/-- The best ones of the list, in order. -/
def TopR (l S : List Hit) : Prop := S.Pairwise (fun a b => hlt a b = true) ∧ ∀ h, h ∈ S ↔ Best l h
theorem sorted_eq : ∀ (S S' : List Hit), S.Pairwise (fun a b => hlt a b = true) → S'.Pairwise (fun a b => hlt a b = true) → (∀ h, h ∈ S ↔ h ∈ S') → S = S'
  | [], [], _, _, _ => rfl
  | [], y :: ys, _, _, h => by have := (h y).2 (List.mem_cons_self ..); simp at this
  | x :: xs, [], _, _, h => by have := (h x).1 (List.mem_cons_self ..); simp at this
  | x :: xs, y :: ys, p, q, h => by
    obtain ⟨p1, p2⟩ := List.pairwise_cons.1 p
    obtain ⟨q1, q2⟩ := List.pairwise_cons.1 q
    have e : x = y := by
      rcases List.mem_cons.1 ((h x).1 (List.mem_cons_self ..)) with e | hx
      · exact e
      · rcases List.mem_cons.1 ((h y).2 (List.mem_cons_self ..)) with e | hy
        · exact e.symm
        · have h1 := q1 x hx
          have h2 := hlt_asymm (p1 y hy)
          rw [h1] at h2
          cases h2
    subst e
    rw [sorted_eq xs ys p2 q2 (fun z => ?_)]
    constructor
    · intro hz
      rcases List.mem_cons.1 ((h z).1 (List.mem_cons_of_mem _ hz)) with e | hz'
      · subst e
        have := p1 z hz
        rw [hlt_irrefl] at this
        cases this
      · exact hz'
    · intro hz
      rcases List.mem_cons.1 ((h z).2 (List.mem_cons_of_mem _ hz)) with e | hz'
      · subst e
        have := q1 z hz
        rw [hlt_irrefl] at this
        cases this
      · exact hz'
theorem TopR.unique {l S S' : List Hit} (h : TopR l S) (h' : TopR l S') : S = S' := sorted_eq S S' h.1 h'.1 (fun x => (h.2 x).trans (h'.2 x).symm)
/-- What the sort leaves. -/
theorem sorted_top {l os : List Hit} {d' : Array Hit} (hn : (os.map (·.1)).Nodup) (hm : ∀ h, h ∈ os ↔ Best l h) (hp : Sort.PermIn 0 os.length os.toArray d') (hs : Sort.SortedIn hlt 0 os.length d') : TopR l d'.toList ∧ d'.toList.length = os.length := by
  obtain ⟨h1, _, h3⟩ := hp
  have hsz : d'.size = os.length := by simpa using h1
  have e1 : (d'.extract 0 os.length).toList = d'.toList := by rw [← hsz]; simp
  have e2 : (os.toArray.extract 0 os.length).toList = os := by simp
  rw [e1, e2] at h3
  have hnd : d'.toList.Nodup := h3.nodup_iff.2 (nodup_of_ids hn)
  refine ⟨⟨?_, fun h => by rw [h3.mem_iff, hm]⟩, by simpa using hsz⟩
  rw [List.pairwise_iff_getElem]
  intro i j hi hj hij
  have hi' : i < d'.size := by simpa using hi
  have hj' : j < d'.size := by simpa using hj
  have h := hs i j (Nat.zero_le _) hij (by omega)
  rw [getElem!_pos d' i hi', getElem!_pos d' j hj'] at h
  have hne : d'.toList[i] ≠ d'.toList[j] := by
    intro he
    exact absurd ((List.getElem_inj hnd).1 he) (by omega)
  simp only [Array.getElem_toList] at hne ⊢
  cases hc : hlt d'[i] d'[j] with
  | true => rfl
  | false => exact absurd (hlt_total hc h) hne
def TopPost (l : List Hit) (k : Nat) (w : World) (e : Ending) (w' : World) : Prop :=
  ∃ A m c S, e = .returned (.tuple #[.slice A m c, .int .i64 0]) ∧ TopR l S ∧ Reads w' w'.heap.size 2 A m (hits (S.take k)) ∧ m ≤ c ∧ c ≤ maxLen ∧ Below w.heap.size w w'
set_option maxHeartbeats 1000000 in
theorem top_no (A : Option Addr) (n c : Nat) (k : Int) (w : World) (hk : k < 0 ∨ 64 < k) : Calls Try.prog 18 #[.slice A n c, .int .i64 k] w fun e w' => e = .returned (.tuple #[.slice none 0 0, .int .i64 51]) ∧ w' = w := by
  by_cases h : k < 0
  · go_enter Try.func18, Try.ntmps18
    go_wp2_with fail
    go_ret2
    exact ⟨rfl, rfl⟩
  · have h2 : 64 < k := by omega
    go_enter Try.func18, Try.ntmps18
    go_wp2_with fail
    go_ret2
    exact ⟨rfl, rfl⟩
/-- A row of the call's own, as the sort wants it. -/
theorem st_of_own {W : World} {base c0 g m cap : Nat} {os : List Hit} (h : W.ownsRow base 37 2 (.slice (some ⟨g, 0, none⟩) m cap) m (hits os)) (hm : m = os.length) (hb : Box W c0 31 (.slice (some ⟨g, 0, none⟩) m cap)) (hne : c0 ≠ g) (hlt : g < W.heap.size)
    (hfz : ∀ j, j < m * 2 → W.cell? ⟨g, j, none⟩ = (hits os)[j]? ∧ W.frozen? ⟨g, j, none⟩ = false) : St c0 g m cap os.toArray W := by
  refine ⟨by simp [hm], fun j hj => ?_, hb, hlt, hne⟩
  rw [Sort.size_flatK] at hj
  have hj' : j < m * 2 := by simpa [hm] using hj
  obtain ⟨h1, h2⟩ := hfz j hj'
  rw [Nat.zero_add, h1, Sort.get_flatK _ _ _ _ hj]
  refine ⟨?_, h2⟩
  have hjl : j / 2 < os.length := by omega
  obtain ⟨t1, t2⟩ := hits_at os (j / 2) hjl
  have e : os.toArray[j / 2]! = os.getD (j / 2) (0, 0) := by
    rw [getElem!_pos _ _ (by simpa using hjl), List.getD_eq_getElem?_getD, List.getElem?_eq_getElem hjl]
    rfl
  rw [e]
  rcases Nat.mod_two_eq_zero_or_one j with h0 | h0
  · rw [h0, show (hits os)[j]? = (hits os)[2 * (j / 2)]? by congr 1; omega, t1]
    simp [hcell]
  · rw [h0, show (hits os)[j]? = (hits os)[2 * (j / 2) + 1]? by congr 1; omega, t2]
    simp [hcell]
/-- .. and as it reads behind it. -/
theorem reads_of_st {W : World} {c0 g n cap m : Nat} {d : Array Hit} (h : St c0 g n cap d W) (hm : m ≤ n) : Reads W W.heap.size 2 (some ⟨g, 0, none⟩) m (hits (d.toList.take m)) := by
  have hs := h.size
  refine ⟨by rw [hits_len, List.length_take]; simp; omega, fun _ => ⟨_, rfl, h.lt, fun j u hj => ?_⟩⟩
  have hj2 := (List.getElem?_eq_some_iff.1 hj).1
  rw [hits_len, List.length_take, Array.length_toList] at hj2
  rw [add_flat, Nat.zero_add]
  have hjl : j / 2 < d.size := by omega
  obtain ⟨t1, t2⟩ := hits_at (d.toList.take m) (j / 2) (by rw [List.length_take, Array.length_toList]; omega)
  have e : (d.toList.take m).getD (j / 2) (0, 0) = d[j / 2]! := by
    rw [getElem!_pos d _ hjl, List.getD_eq_getElem?_getD, List.getElem?_take, if_pos (by omega), List.getElem?_eq_getElem (by simpa using hjl)]
    simp
  rw [e] at t1 t2
  obtain ⟨q1, q2⟩ := h.cells (i := j / 2) (by omega)
  rcases Nat.mod_two_eq_zero_or_one j with h0 | h0
  · rw [show (hits (d.toList.take m))[j]? = (hits (d.toList.take m))[2 * (j / 2)]? by congr 1; omega, t1] at hj
    injection hj with hj
    rw [← hj, ← q1]
    congr 2
    omega
  · rw [show (hits (d.toList.take m))[j]? = (hits (d.toList.take m))[2 * (j / 2) + 1]? by congr 1; omega, t2] at hj
    injection hj with hj
    rw [← hj, ← q2]
    congr 2
    omega
theorem own_cells {W : World} {base g m cap : Nat} {xs : List Value} (h : W.ownsRow base 37 2 (.slice (some ⟨g, 0, none⟩) m cap) m xs) : (g < W.heap.size ∧ base ≤ g ∧ m ≤ cap ∧ cap ≤ maxLen) ∧ ∀ j, j < m * 2 → W.cell? ⟨g, j, none⟩ = xs[j]? ∧ W.frozen? ⟨g, j, none⟩ = false := by
  rcases h.2 with ⟨h1, _⟩ | ⟨g', cap', cur, h1, hb, hh, hc1, hc2, hsz, ht⟩
  · cases h1
  · injection h1 with h1 _ h3
    injection h1 with h1
    injection h1 with h1
    subst h1 h3
    refine ⟨⟨(Array.getElem?_eq_some_iff.1 hh).1, hb, hc1, hc2⟩, fun j hj => ?_⟩
    simp only [World.cell?, World.frozen?, hh]
    refine ⟨?_, by simp⟩
    rw [← ht, List.getElem?_take, if_pos hj]
    simp
theorem take_min (S : List Hit) (k m : Nat) (h : S.length = m) : S.take (min k m) = S.take k := by
  by_cases hk : k ≤ m
  · rw [Nat.min_eq_left hk]
  · rw [Nat.min_eq_right (by omega), List.take_of_length_le (by omega), List.take_of_length_le (by omega)]
def SortedPost (A1 : Option Addr) (m c1 B : Nat) (l : List Hit) (w1 : World) (e : Ending) (w3 : World) : Prop :=
  e = .returned (.tuple #[]) ∧ ∃ S, TopR l S ∧ S.length = m ∧ w3.cell? ⟨w1.heap.size, 0, none⟩ = some (.slice A1 m c1) ∧ (∀ j, j ≤ m → Reads w3 w3.heap.size 2 A1 j (hits (S.take j))) ∧ Below B w1 w3
theorem pair_short {os : List Hit} (h : os.length ≤ 1) : os.Pairwise (fun a b => hlt a b = true) := by
  match os, h with
  | [], _ => exact List.Pairwise.nil
  | [x], _ => exact List.pairwise_singleton _ _
theorem sort_step {l os : List Hit} {A1 : Option Addr} {m c1 B : Nat} {w1 : World} (hown : w1.ownsRow B 37 2 (.slice A1 m c1) m (hits os)) (hm : m = os.length) (hm2 : m ≤ 1000000) (hnd : (os.map (·.1)).Nodup) (hmem : ∀ h, h ∈ os ↔ Best l h) (hB : B ≤ w1.heap.size) :
    Calls Try.prog 27 #[.iface 31 (.slice A1 m c1), .func (.func 28) #[] #[.pointer (some ⟨w1.heap.size, 0, none⟩)]] (w1.alloc (.cells #[.slice A1 m c1] 31)) (SortedPost A1 m c1 B l w1) := by
  have hb0 : Below B w1 (w1.alloc (.cells #[.slice A1 m c1] 31)) := (Below.refl B w1).alloc hB _
  have hbx := Box.new w1 31 (.slice A1 m c1)
  have hsz : (w1.alloc (.cells #[.slice A1 m c1] 31)).heap.size = w1.heap.size + 1 := by simp
  by_cases h2 : 2 ≤ m
  · obtain ⟨g, cap, hv, _⟩ := hown.form (by omega)
    injection hv with hv _ hc
    subst hv hc
    have hown0 := hown.alloc (.cells #[.slice (some ⟨g, 0, none⟩) m c1] 31)
    obtain ⟨⟨hg, hbg, _, _⟩, hcells⟩ := own_cells hown0
    have hg1 := (own_cells hown).1.1
    have hst := st_of_own hown0 hm hbx (by omega) hg hcells
    refine (slice_any hst hm2 h2).mono ?_
    rintro e w3 ⟨rfl, d', hp, hs, hS3, hg3⟩
    rw [hm] at hp hs
    obtain ⟨htop, hlen⟩ := sorted_top hnd hmem hp hs
    refine ⟨rfl, d'.toList, htop, by rw [hlen, hm], hS3.box.cell, fun j hj => reads_of_st hS3 hj, hb0.trans ?_⟩
    exact ⟨hg3.os, hg3.tape, hg3.output, hg3.size, fun b hb => hg3.block b (by rw [hsz]; omega) (by simp; omega)⟩
  · refine (slice_few A1 m c1 (by omega) w1.heap.size _).mono ?_
    rintro e w3 ⟨rfl, hb3⟩
    rw [hsz] at hb3
    have hb3' : Below B (w1.alloc (.cells #[.slice A1 m c1] 31)) w3 := hb3.mono (by omega)
    have hbw : Below w1.heap.size w1 w3 := ((Below.refl w1.heap.size w1).alloc (Nat.le_refl _) _).trans (hb3.mono (by omega))
    refine ⟨rfl, os, ⟨pair_short (by omega), hmem⟩, hm.symm, (hbx.below hb3 (by omega)).cell, fun j hj => ?_, hb0.trans hb3'⟩
    have hr := Reads.of_own (keep_none hown hbw)
    refine ⟨by rw [hits_len, List.length_take]; omega, fun h0 => ?_⟩
    obtain ⟨ad, e, hblk, hc⟩ := hr.2 (by omega)
    refine ⟨ad, e, hblk, fun i u hi => hc i u ?_⟩
    rw [← hits_take, List.getElem?_take] at hi
    split at hi
    · exact hi
    · cases hi
set_option maxHeartbeats 4000000 in
set_option maxRecDepth 100000 in
theorem top_any (A : Option Addr) (n c : Nat) (l : List Hit) (k : Nat) (w : World) (hx : Reads w w.heap.size 2 A n (hits l)) (hw : WF l) (hn : n ≤ 1000000) (hk : k ≤ 64) : Calls Try.prog 18 #[.slice A n c, .int .i64 k] w (TopPost l k w) := by
  have HO := Lib.hid (once_any A n c l w hx hw hn)
  have hlen : l.length ≤ n := by have := hx.hits_len; omega
  have hk1 : ¬ (k : Int) < 0 := by omega
  have hk2 : ¬ (64 : Int) < (k : Int) := by omega
  clear hx hw
  go_enter Try.func18, Try.ntmps18
  go_wp2_with fail
  refine HO.out.mono ?_
  rintro e w1 ⟨v, os, rfl, hown, hnd, hmem, hshort, hb1⟩
  obtain ⟨A1, c1, rfl, hc1, hc2⟩ := own_shape hown
  have HND := Lib.hid hnd
  have HMEM := Lib.hid hmem
  have HOWN := Lib.hid hown
  have HB1 := Lib.hid hb1
  have hm2 : os.length ≤ 1000000 := by omega
  have HSH := Lib.hid hshort
  obtain ⟨m, hm⟩ : ∃ m, m = os.length := ⟨_, rfl⟩
  rw [← hm] at hm2 hc1 HOWN ⊢
  have HM := Lib.hid hm
  clear hnd hmem hown hb1 hshort hm
  have hs := sort_step HOWN.out HM.out hm2 HND.out HMEM.out HB1.out.size
  have HS := Lib.hid hs
  clear hs
  go_wp2_with fail
  refine HS.out.mono ?_
  rintro e w3 ⟨rfl, S, htop, hlen, hcell, hreads, hb3⟩
  have HT := Lib.hid htop
  have HL := Lib.hid hlen
  have HR := Lib.hid hreads
  have HB3 := Lib.hid hb3
  clear htop hlen hreads hb3
  have hcl := clone_any A1 (min k m) c1 _ (S.take (min k m)) w3 (HR.out (min k m) (by omega)) (Nat.le_refl _) (by omega)
  have HC := Lib.hid hcl
  clear hcl
  go_wp2_with fail
  rw [show (min (k : Int) (m : Int)).toNat = min k m by omega]
  refine HC.out.mono ?_
  rintro e w4 ⟨v4, rfl, hown4, hb4⟩
  obtain ⟨A4, c4, rfl, hq1, hq2⟩ := own_shape hown4
  have HF : Hid (Reads w4 w4.heap.size 2 A4 (min k m) (hits (S.take k))) := Lib.hid (by
    have := Reads.of_own hown4
    rw [take_min S k m HL.out] at this
    exact this)
  have HB : Hid (Below w.heap.size w w4) := Lib.hid ((HB1.out.trans HB3.out).trans (hb4.mono (by have := HB1.out.size; have := HB3.out.size; omega)))
  have HQ := Lib.hid (And.intro hq1 hq2)
  clear hown4 hb4 hq1 hq2
  go_wp2_with fail
  go_ret2
  exact ⟨A4, min k m, c4, S, rfl, HT.out, HF.out, HQ.out.1, HQ.out.2, HB.out⟩
end Go.Proofs.Ytahgamjfglcenaa
