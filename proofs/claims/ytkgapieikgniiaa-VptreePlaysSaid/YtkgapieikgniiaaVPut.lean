/- What Put of a tree returns, and New. Conditions: a tree that New gave, in memory; the vector reads as a list. -/
import Derived.Test.YtkgapieikgniiaaVDrop
import Derived.Carry
import Derived.Deep.RegionHeld3
set_option linter.unusedVariables false
set_option linter.unusedSimpArgs false
namespace Go.Proofs.Ytkgapieikgniiaa
open Go Go.RowKit Go.Maps
section
variable {w w' : World} {F : Nat → Prop} {t bm fm dim : Nat} {rv : Value} {N : NT} {B U : List Ent}
/-- A point that comes by value, in its own box. -/
theorem pbox (w : World) (c0 c1 : Value) : Row (w.alloc (.cells #[c0, c1] 37)) w.heap.size 37 [c0, c1] := Row.new w 37 [c0, c1]
theorem ck_len {l : List Int} {dim : Nat} (h : ck l dim = 0) : okV l = true ∧ l.length = dim := by
  obtain ⟨h1, h2⟩ := (ck_zero l dim).1 h
  exact ⟨h1, by omega⟩
theorem no_len {x : Int} (h : Apart B) (k : Apart U) : (noId x B).length + (noId x U).length + (if isId x B = true then 1 else 0) + (if isId x U = true then 1 else 0) = B.length + U.length := by
  have h1 := noId_len (x := x) h
  have h2 := noId_len (x := x) k
  omega
theorem MapAt.apart {b : Nat} {E : List Ent} (h : MapAt w b E) : Apart E := by
  obtain ⟨D, _, hD⟩ := h
  exact hD.apart
theorem isId_app (x : Int) (B U : List Ent) : isId x (B ++ U) = (isId x B || isId x U) := by simp [isId]
theorem isId_noId (x : Int) (E : List Ent) : isId x (noId x E) = false := by
  rw [Bool.eq_false_iff, Ne, isId_iff]
  rintro ⟨p, hp, e⟩
  exact (noId_mem.1 hp).2 e
/-- A new point among those that came since. -/
theorem TreeW.ins (h : TreeW w F t bm fm dim rv N B U) {x : Int} {v : Value} {l : List Int} {g : Nat} (hx : (Lit.int .i64 x).wf = true) (hl : ck l dim = 0) (i1 : isId x B = false) (hn : B.length + U.length < 512)
    (m : MapAt w' fm ((x, v, l) :: U)) (hg : w.grownBy w' (some fm)) (hv : VecIn w' (fun b => b = g) v l) (hgF : ¬ F g) : TreeW w' (fun b => F b ∨ b = g) t bm fm dim rv N B ((x, v, l) :: U) := by
  obtain ⟨k1, k2⟩ := ck_len hl
  have far_ : ∀ b, Core F t bm fm b → b < w.heap.size → w'.heap[b]? = w.heap[b]? := fun b hb hlt => hg.block b hlt (by simpa using hb.2.2.2)
  have up : ∀ b, Core F t bm fm b → Core (fun b => F b ∨ b = g) t bm fm b := fun b hb => ⟨.inl hb.1, hb.2⟩
  have new : ∀ b, b = g → Core (fun b => F b ∨ b = g) t bm fm b := fun b hb => ⟨.inr hb, by subst hb; exact ⟨fun e => hgF (e ▸ h.ft), fun e => hgF (e ▸ h.fb), fun e => hgF (e ▸ h.ff)⟩⟩
  have hm : ∀ p ∈ B ++ (x, v, l) :: U, p ∈ B ++ U ∨ p = (x, v, l) := by
    intro p hp
    rcases List.mem_append.1 hp with hp | hp
    · exact .inl (List.mem_append_left _ hp)
    · rcases List.mem_cons.1 hp with rfl | hp
      · exact .inr rfl
      · exact .inl (List.mem_append_right _ hp)
  exact { h with
    box := (hg.block t h.tlt (by simpa using h.e2)).trans h.box
    mb := h.mb.keep (hg.block bm (h.lt bm h.fb) (by simpa using h.e3))
    mf := m
    ok := fun p hp => by
      rcases hm p hp with hp | rfl
      · exact h.ok p hp
      · exact ⟨hx, k1, k2⟩
    vec := fun p hp => by
      rcases hm p hp with hp | rfl
      · exact ((h.vec p hp).keep far_ hg.size).more (fun b hb _ => up b hb)
      · exact hv.more (fun b hb _ => new b hb)
    apart := fun p hp q hq => by
      rcases List.mem_cons.1 hq with rfl | hq
      · exact isId_no i1 p hp
      · exact h.apart p hp q hq
    node := (h.node.keep far_ hg.size).more (fun b hb _ => up b hb)
    len := by simp only [List.length_cons]; omega
    ft := .inl h.ft
    fb := .inl h.fb
    ff := .inl h.ff
    lt := fun b hb => by
      rcases hb with hb | hb
      · have := h.lt b hb
        have := hg.size
        omega
      · obtain ⟨ad, c, _, hg2, hlt, _⟩ := hv
        omega }
def point (x : Int) (A : Option Addr) (n c : Nat) : Value := .agg #[.int .i64 x, .slice A n c]
def NoPut (w : World) (F : Nat → Prop) (t bm fm dim : Nat) (B U : List Ent) (e : Ending) (er : Int) (w' : World) : Prop :=
  e = .returned (.tuple #[.bool false, .int .i64 er]) ∧ ∃ rv' N', TreeW w' F t bm fm dim rv' N' B U ∧ Turn F w F w'
set_option maxHeartbeats 1000000 in
theorem vput_bad (h : TreeW w F t bm fm dim rv N B U) {x : Int} {A : Option Addr} {n c C : Nat} {l : List Int} (hR : Reads w C 1 A n (ints l)) (hC : C ≤ w.heap.size) (hn : n ≤ maxLen) (hk : ck l dim = 50) :
    Calls Try.prog 19 #[.pointer (some ⟨t, 0, none⟩), point x A n c] w fun e w' => NoPut w F t bm fm dim B U e 50 w' := by
  have hr := pbox w (.int .i64 x) (.slice A n c)
  have h0 := h.below ((Below.refl _ w).alloc (Nat.le_refl _) (.cells #[.int .i64 x, .slice A n c] 37))
  have T0 : Turn F w F (w.alloc (.cells #[.int .i64 x, .slice A n c] 37)) := Turn.alloc F w _
  have hR0 := hR.alloc hC (.cells #[.int .i64 x, .slice A n c] 37)
  unfold point
  generalize hW : w.alloc (.cells #[.int .i64 x, .slice A n c] 37) = W at *
  have HW := Lib.hid hW
  clear hW
  have hg := vgiven_any h0
  go_enter Try.func19, Try.ntmps19
  go_wp2_with fail
  rw [HW.out]
  refine hg.mono ?_
  rintro e w1 ⟨rfl, q, rfl⟩
  obtain ⟨w1, hw1⟩ : ∃ w1, w1 = W.drewN q := ⟨_, rfl⟩
  rw [← hw1]
  have hc := fun q => check_any A n c C l dim (w1.drewN q) (by rw [hw1]; exact (hR0.drewN _).drewN q) hn
  rw [hk] at hc
  have hr1 : Row w1 w.heap.size 37 [.int .i64 x, .slice A n c] := by rw [hw1]; exact hr
  have h1 : TreeW w1 F t bm fm dim rv N B U := by rw [hw1]; exact h0.drewN q
  have b0 := hr1.cell (j := 0) rfl
  have b1 := hr1.cell (j := 1) rfl
  have hbl := hr1.lt
  have c1 := h1.c1
  have hl := h1.tlt
  have HF := Lib.hid (And.intro h1 (show Turn F w F w1 by rw [hw1]; exact T0.trans (Turn.drewN F W q)))
  clear h hR hR0 hr h0 T0 hg hw1 hr1 h1
  go_wp2_with fail
  go_quiet ((go_at_call 34; refine Calls.quiet_of (hc _)))
  obtain ⟨n2, rfl⟩ : ∃ n2, n2 = nq := ⟨_, rfl⟩
  go_wp2_with fail
  go_ret2
  exact ⟨rfl, rv, N, HF.out.1.drewN n2, HF.out.2.trans (Turn.drewN F w1 n2)⟩
def PutPost (w : World) (F : Nat → Prop) (t bm fm dim : Nat) (B U : List Ent) (x : Int) (l : List Int) (e : Ending) (w' : World) : Prop :=
  e = .returned (.tuple #[.bool (isId x (B ++ U)), .int .i64 0]) ∧ ∃ F' rv' N' v', TreeW w' F' t bm fm dim rv' N' (noId x B) ((x, v', l) :: noId x U) ∧ Turn F w F' w'
/-- What lies behind Drop, and its box. -/
theorem row_turn {W : World} {g : Nat} {T : TypeId} {xs : List Value} {F F' : Nat → Prop} (h : Row w g T xs) (k : Turn F w F' W) (hg : ¬ F g) : Row W g T xs := h.keep (k.block g h.lt hg)
set_option maxHeartbeats 2000000 in
theorem vput_full (h : TreeW w F t bm fm dim rv N B U) {x : Int} {A : Option Addr} {n c C : Nat} {l : List Int} (hx : (Lit.int .i64 x).wf = true) (hR : Reads w C 1 A n (ints l)) (hC : C ≤ w.heap.size) (hn : n ≤ maxLen) (hk : ck l dim = 0)
    (hi : isId x (B ++ U) = false) (hf : 512 ≤ B.length + U.length) :
    Calls Try.prog 19 #[.pointer (some ⟨t, 0, none⟩), point x A n c] w fun e w' => NoPut w F t bm fm dim B U e 2 w' := by
  have hr := pbox w (.int .i64 x) (.slice A n c)
  have h0 := h.below ((Below.refl _ w).alloc (Nat.le_refl _) (.cells #[.int .i64 x, .slice A n c] 37))
  have T0 : Turn F w F (w.alloc (.cells #[.int .i64 x, .slice A n c] 37)) := Turn.alloc F w _
  have hR0 := hR.alloc hC (.cells #[.int .i64 x, .slice A n c] 37)
  have hgF : ¬ F w.heap.size := fun hF => by have := h.lt _ hF; omega
  unfold point
  generalize hW : w.alloc (.cells #[.int .i64 x, .slice A n c] 37) = W at *
  generalize hs : w.heap.size = s at *
  have HW := Lib.hid hW
  have HS := Lib.hid hs
  clear hW hs
  have hg := vgiven_any h0
  go_enter Try.func19, Try.ntmps19
  go_wp2_with fail
  rw [HW.out, HS.out]
  refine hg.mono ?_
  rintro e w1 ⟨rfl, q, rfl⟩
  obtain ⟨w1, hw1⟩ : ∃ w1, w1 = W.drewN q := ⟨_, rfl⟩
  rw [← hw1]
  have hc := fun q => check_any A n c C l dim (w1.drewN q) (by rw [hw1]; exact (hR0.drewN _).drewN q) hn
  rw [hk] at hc
  have hr1 : Row w1 s 37 [.int .i64 x, .slice A n c] := by rw [hw1]; exact hr
  have h1 : TreeW w1 F t bm fm dim rv N B U := by rw [hw1]; exact h0.drewN q
  have hR1 : Reads w1 C 1 A n (ints l) := by rw [hw1]; exact hR0.drewN q
  have T1 : Turn F w F w1 := by rw [hw1]; exact T0.trans (Turn.drewN F W q)
  have b0 := hr1.cell (j := 0) rfl
  have b1 := hr1.cell (j := 1) rfl
  have hbl := hr1.lt
  have c1 := h1.c1
  have hl := h1.tlt
  have HF := Lib.hid (And.intro h1 (And.intro T1 hr1))
  have HI := Lib.hid (And.intro hi hf)
  clear h hR hR0 hr h0 T0 hg hi hf hw1 hr1 h1 T1 hR1
  go_wp2_with fail
  go_quiet ((go_at_call 34; refine Calls.quiet_of (hc _)))
  obtain ⟨q2, rfl⟩ : ∃ q2, q2 = nq := ⟨_, rfl⟩
  go_wp2_with fail
  obtain ⟨w2, hw2⟩ : ∃ w2, w2 = w1.drewN q2 := ⟨_, rfl⟩
  rw [← hw2]
  have h2 : TreeW w2 F t bm fm dim rv N B U := by rw [hw2]; exact HF.out.1.drewN q2
  have T2 : Turn F w F w2 := by rw [hw2]; exact HF.out.2.1.trans (Turn.drewN F w1 q2)
  have r2 : Row w2 s 37 [.int .i64 x, .slice A n c] := by rw [hw2]; exact HF.out.2.2
  have d0 := r2.cell (j := 0) rfl
  have dl := r2.lt
  have hd := vdrop_any h2 hx
  have H2 := Lib.hid (And.intro h2 T2)
  clear hw2 h2 T2 r2 HF hc b0 b1 hbl c1 hl
  go_wp2_with fail
  refine hd.mono ?_
  rintro e w3 ⟨rfl, rv3, N3, h3, T3⟩
  have hi1 : isId x B = false := by have := HI.out.1; rw [isId_app, Bool.or_eq_false_iff] at this; exact this.1
  have hi2 : isId x U = false := by have := HI.out.1; rw [isId_app, Bool.or_eq_false_iff] at this; exact this.2
  rw [noId_self hi1, noId_self hi2] at h3
  have hlen := vlen_any h3
  have H3 := Lib.hid (And.intro h3 (H2.out.2.trans T3))
  have hbig : (512 : Int) ≤ ((B.length + U.length : Nat) : Int) := by have := HI.out.2; omega
  clear h3 T3 H2 hd d0 dl hi1 hi2
  generalize ((B.length + U.length : Nat) : Int) = m at *
  go_wp2_with fail
  refine hlen.mono ?_
  rintro e w4 ⟨rfl, q4, rfl⟩
  go_wp2_with fail
  go_ret2
  exact ⟨rfl, rv3, N3, H3.out.1.drewN q4, H3.out.2.trans (Turn.drewN F w3 q4)⟩
theorem TreeW.cell4 (h : TreeW w F t bm fm dim rv N B U) (hg : w.grownBy w' (some fm)) : Hid (w'.cell? ⟨t, 4, none⟩ = some (.map (some fm))) :=
  Lib.hid ((World.cell?_of_block (hg.block t h.tlt (by simpa using h.e2))).trans h.c4)
theorem row_grown {W W' : World} {g row : Nat} {T : TypeId} {xs : List Value} (h : Row W g T xs) (hg : W.grownBy W' (some row)) (hne : g ≠ row) : Row W' g T xs := h.keep (hg.block g h.lt (by simpa using hne))
theorem ins_run {W : World} {b : Nat} {E : List Ent} {x : Int} {val : Value} (l : List Int) (h : MapAt W b E) (hl : E.length ≤ 1000) (hw : (Lit.int .i64 x).wf = true) (hn : isId x E = false) :
    ∃ w', (Instr.mapUpdate 64 (.map (some b)) (.int .i64 x) val).run Try.prog W = .ok () w' ∧ MapAt w' b ((x, val, l) :: E) ∧ W.grownBy w' (some b) := by
  obtain ⟨D, ho, hD⟩ := h
  obtain ⟨w', hrun, h1, h2⟩ := ho.store law3 Try.underlying64 (by unfold maxLen; omega) (key_of hw) (val := val) (d := .held val) (ps := []) rfl
  exact ⟨w', hrun, MapAt.of h1 (hD.put x val l hn), h2.grown⟩
theorem mapin (h : TreeW w F t bm fm dim rv N B U) : MapAt w fm U := h.mf
set_option maxHeartbeats 4000000 in
set_option maxRecDepth 100000 in
theorem vput_any (h : TreeW w F t bm fm dim rv N B U) {x : Int} {A : Option Addr} {n c C : Nat} {l : List Int} (hx : (Lit.int .i64 x).wf = true) (hR : Reads w C 1 A n (ints l)) (hC : C ≤ w.heap.size) (hn : n ≤ maxLen) (hA : ∀ ad, A = some ad → ¬ F ad.block) (hk : ck l dim = 0)
    (hf : isId x (B ++ U) = true ∨ B.length + U.length < 512) :
    Calls Try.prog 19 #[.pointer (some ⟨t, 0, none⟩), point x A n c] w (PutPost w F t bm fm dim B U x l) := by
  have hr := pbox w (.int .i64 x) (.slice A n c)
  have h0 := h.below ((Below.refl _ w).alloc (Nat.le_refl _) (.cells #[.int .i64 x, .slice A n c] 37))
  have T0 : Turn F w F (w.alloc (.cells #[.int .i64 x, .slice A n c] 37)) := Turn.alloc F w _
  have hR0 := hR.alloc hC (.cells #[.int .i64 x, .slice A n c] 37)
  have hgF : ¬ F w.heap.size := fun hF => by have := h.lt _ hF; omega
  have hnl := hR.len
  obtain ⟨ad, rfl, hab, _⟩ := hR.2 (by have := (ck_len hk).1; rw [okV_iff] at this; omega)
  have hAd := hA ad rfl
  have hsz : (noId x B).length + (noId x U).length < 512 := by
    have h1 := no_len (x := x) h.mb.apart h.mf.apart
    have h2 := h.len
    rcases hf with hf | hf
    · rw [isId_app] at hf
      rcases (Bool.or_eq_true ..).mp hf with hf | hf <;> rw [hf] at h1 <;> simp only [if_true] at h1 <;> omega
    · omega
  have hab' : ad.block < w.heap.size := by omega
  subst hnl
  unfold point
  generalize hW : w.alloc (.cells #[.int .i64 x, .slice (some ad) l.length c] 37) = W at *
  generalize hs : w.heap.size = s at *
  have HW := Lib.hid hW
  have HS := Lib.hid hs
  clear hW hs
  have hg := vgiven_any h0
  have hl16 : l.length ≤ 16 := by have := (ck_len hk).1; rw [okV_iff] at this; omega
  have HK := Lib.hid hk
  generalize hm : l.length = m at *
  have HM := Lib.hid hm
  clear hm
  go_enter Try.func19, Try.ntmps19
  go_wp2_with fail
  rw [HW.out, HS.out]
  refine hg.mono ?_
  rintro e w1 ⟨rfl, q, rfl⟩
  obtain ⟨w1, hw1⟩ : ∃ w1, w1 = W.drewN q := ⟨_, rfl⟩
  rw [← hw1]
  have hc := fun q => check_any (some ad) m c C l dim (w1.drewN q) (by rw [hw1]; exact (hR0.drewN _).drewN q) hn
  rw [hk] at hc
  have hr1 : Row w1 s 37 [.int .i64 x, .slice (some ad) m c] := by rw [hw1]; exact hr
  have h1 : TreeW w1 F t bm fm dim rv N B U := by rw [hw1]; exact h0.drewN q
  have hR1 : Reads w1 C 1 (some ad) m (ints l) := by rw [hw1]; exact hR0.drewN q
  have T1 : Turn F w F w1 := by rw [hw1]; exact T0.trans (Turn.drewN F W q)
  have b0 := hr1.cell (j := 0) rfl
  have b1 := hr1.cell (j := 1) rfl
  have hbl := hr1.lt
  have c1 := h1.c1
  have hl := h1.tlt
  have HF := Lib.hid (And.intro h1 (And.intro T1 (And.intro hr1 hR1)))
  have HZ := Lib.hid (And.intro hsz (And.intro hgF (And.intro hAd (And.intro hab hC))))
  clear h hR hR0 hr h0 T0 hg hf hA hsz hgF hAd hk hab hC hw1 hr1 h1 T1 hR1
  go_wp2_with fail
  go_quiet ((go_at_call 34; refine Calls.quiet_of (hc _)))
  obtain ⟨q2, rfl⟩ : ∃ q2, q2 = nq := ⟨_, rfl⟩
  go_wp2_with fail
  obtain ⟨w2, hw2⟩ : ∃ w2, w2 = w1.drewN q2 := ⟨_, rfl⟩
  rw [← hw2]
  have h2 : TreeW w2 F t bm fm dim rv N B U := by rw [hw2]; exact HF.out.1.drewN q2
  have T2 : Turn F w F w2 := by rw [hw2]; exact HF.out.2.1.trans (Turn.drewN F w1 q2)
  have r2 : Row w2 s 37 [.int .i64 x, .slice (some ad) m c] := by rw [hw2]; exact HF.out.2.2.1
  have R2 : Reads w2 C 1 (some ad) m (ints l) := by rw [hw2]; exact HF.out.2.2.2
  have d0 := r2.cell (j := 0) rfl
  have dl := r2.lt
  have hd := vdrop_any h2 hx
  have H2 := Lib.hid (And.intro h2 (And.intro T2 (And.intro r2 R2)))
  clear hw2 h2 T2 r2 R2 HF hc b0 b1 hbl c1 hl
  go_wp2_with fail
  refine hd.mono ?_
  rintro e w3 ⟨rfl, rv3, N3, h3, T3⟩
  have r3 := row_turn H2.out.2.2.1 T3 HZ.out.2.1
  have hs2 : s ≤ w2.heap.size := H2.out.2.2.1.lt |> Nat.le_of_lt
  have R3 : Reads w3 C 1 (some ad) m (ints l) := ⟨H2.out.2.2.2.1, fun hp => by
    obtain ⟨ad', e, hb, hcc⟩ := H2.out.2.2.2.2 hp
    injection e with e
    subst e
    exact ⟨_, rfl, hb, fun j u hj => (World.cell?_of_block (T3.block _ (by rw [block_of_add]; have := HZ.out.2.2.2.2; omega) (by rw [block_of_add]; exact HZ.out.2.2.1))).trans (hcc j u hj)⟩⟩
  have hlen := vlen_any h3
  have hsz3 := T3.size
  have H3 := Lib.hid (And.intro h3 (And.intro (H2.out.2.1.trans T3) (And.intro r3 (And.intro R3 (show C ≤ w3.heap.size by have := HZ.out.2.2.2.2; omega)))))
  have hsm : ((((noId x B).length + (noId x U).length : Nat) : Int)) < 512 := by have := HZ.out.1; omega
  clear h3 T3 H2 hd d0 dl r3 R3 hs2 hsz3
  generalize hk4 : ((((noId x B).length + (noId x U).length : Nat) : Int)) = k4 at *
  clear hk4
  go_wp2_with fail
  refine hlen.mono ?_
  rintro e w4 ⟨rfl, q4, rfl⟩
  obtain ⟨w5, hw5⟩ : ∃ w5, w5 = w3.drewN q4 := ⟨_, rfl⟩
  rw [← hw5]
  have h5 : TreeW w5 F t bm fm dim rv3 N3 (noId x B) (noId x U) := by rw [hw5]; exact H3.out.1.drewN q4
  have T5 : Turn F w F w5 := by rw [hw5]; exact H3.out.2.1.trans (Turn.drewN F w3 q4)
  have r5 : Row w5 s 37 [.int .i64 x, .slice (some ad) m c] := by rw [hw5]; exact H3.out.2.2.1
  have R5 : Reads w5 C 1 (some ad) l.length (ints l) := by rw [hw5, HM.out]; exact H3.out.2.2.2.1
  have hC5 : C ≤ w5.heap.size := by rw [hw5]; exact H3.out.2.2.2.2
  have d0 := r5.cell (j := 0) rfl
  have d1 := r5.cell (j := 1) rfl
  have dl := r5.lt
  have c4 := h5.c4
  have hl5 := h5.tlt
  have hcl := icloned ad c C l w5.drew R5.drew hC5 (by rw [HM.out]; omega)
  rw [HM.out] at hcl
  have H5 := Lib.hid (And.intro h5 T5)
  have HR5 := Lib.hid r5
  have HLM : 1 ≤ l.length := by have := (ck_len HK.out).1; rw [okV_iff] at this; omega
  have HL1 := Lib.hid HLM
  clear hw5 h5 T5 r5 R5 hC5 H3 hlen HLM
  go_wp2_with fail
  go_region_held3 (fun w' => w'.cell? ⟨t, 4, none⟩ = some (.map (some fm)) ∧ w'.cell? ⟨s, 0, none⟩ = some (.int .i64 x) ∧ w'.cell? ⟨s, 1, none⟩ = some (.slice (some ad) m c))
    (first | with_reducible exact ⟨f4, f0, f1⟩ | with_reducible exact ⟨e4, e0, e1⟩ | exact ⟨c4, d0, d1⟩)
    ((go_at_call 31; refine hcl.mono ?_; rintro e w6 ⟨v', rfl, hown, hb⟩; have h6 := (H5.out.1.drewN 1).below hb; have T6 := (H5.out.2.trans (Turn.drewN F w5 1)).trans (Turn.below F hb); obtain ⟨g, cap, rfl, hgb, hglt⟩ := hown.form (by have := HL1.out; have := HM.out; omega); have hv6 : VecIn w6 (fun b => b = g) (.slice (some ⟨g, 0, none⟩) m cap) l := ⟨⟨g, 0, none⟩, cap, by rw [HM.out], rfl, hglt, hown.cells (g := g) rfl⟩; have hgF : ¬ F g := (fun hF => absurd hgb (Nat.not_le.2 (H5.out.1.lt g hF))); have hm6 := mapin h6; have H6 := Lib.hid (And.intro h6 (And.intro T6 (And.intro hv6 (And.intro hgF hgb)))); have hle : (noId x U).length ≤ 1000 := (by have := h6.len; omega); have hno := isId_noId x U; obtain ⟨w7, hrun7, m7, g7⟩ := ins_run (val := .slice (some ⟨g, 0, none⟩) m cap) l hm6 hle hx hno; have q6 := H5.out.1.lt s; have e4 := h6.c4; have r6 := HR5.out.keep (hb.block s HR5.out.lt); have e0 := r6.cell (j := 0) rfl; have e1 := r6.cell (j := 1) rfl; have f4 := (TreeW.cell4 h6 g7).out; have f0 := (row_grown r6 g7 (fun e => HZ.out.2.1 (e ▸ H5.out.1.ff))).cell (j := 0) rfl; have f1 := (row_grown r6 g7 (fun e => HZ.out.2.1 (e ▸ H5.out.1.ff))).cell (j := 1) rfl; have HG7 := Lib.hid (And.intro m7 g7); clear h6 T6 hv6 hgF hown hb q6 m7 g7 r6 hm6 hgb hle hno))
  have m7 := HG7.out.1
  have g7 := HG7.out.2
  go_wp2_with fail
  go_ret2
  have hF7 : ∀ b, b = g → b < w6.heap.size → w7.heap[b]? = w6.heap[b]? := fun b hb hlt => g7.block b hlt (by
    rw [hb]
    exact fun e => by injection e with e; exact H6.out.2.2.2.1 (e ▸ H6.out.1.ff))
  refine ⟨rfl, fun b => F b ∨ b = g, rv3, N3, _, H6.out.1.ins hx HK.out (isId_noId x B) HZ.out.1 m7 g7 (H6.out.2.2.1.keep hF7 g7.size) H6.out.2.2.2.1, ?_⟩
  have T7 := H6.out.2.1.trans (turn_grown g7 H6.out.1.ff)
  exact ⟨T7.os, T7.tape, T7.output, T7.size, T7.block, fun b hb => hb.elim .inl (fun e => .inr (by rw [e]; exact Nat.le_trans H5.out.2.size H6.out.2.2.2.2))⟩
end
end Go.Proofs.Ytkgapieikgniiaa
