/- A log in memory; what given, Room and All of package logs return. Conditions: a log that Open gave, in memory. -/
import Derived.Test.YtkehojgiappiiaaGreatDoorApp
import Derived.Test.YtkehojgiappiiaaGreatDoorCopy
import Derived.Deep.RegionHeld3
set_option linter.unusedVariables false
set_option linter.unusedSimpArgs false
namespace Go.Proofs.YtkehojgiappiiaaGreatDoor
open Go Go.RowKit
/-- What a log's block holds. -/
def lcells (p d t f n : Nat) (vr : Value) (st : Nat) (ve : Value) : List Value :=
  [.pointer (some ⟨p, 0, none⟩), .pointer (some ⟨d, 0, none⟩), .int .i64 (t : Int), .pointer (some ⟨d, 0, none⟩), .int .i64 (f : Int), .int .i64 (n : Int), vr, .int .i64 (st : Int), ve]
/-- A log in memory: G is all its blocks; E the bytes that it keeps. -/
structure LgR (w : World) (G : Nat → Prop) (p d t f n : Nat) (R : List (List UInt8)) (vr : Value) (st : Nat) (A : Option Addr) (m c : Nat) (E : List UInt8) : Prop where
  box : Row w p 59 (lcells p d t f n vr st (.slice A m c))
  rc : OwnL w 0 vr R
  en : Reads w w.heap.size 1 A m (Lib.byteCells E)
  mc : m ≤ c ∧ c ≤ maxLen
  er : ∀ g, vr.ownBlock = some g → g ≠ p ∧ G g
  ea : ∀ ad, A = some ad → ad.block ≠ p ∧ G ad.block
  an : A = none → c = 0
  gp : G p
  lt : ∀ b, G b → b < w.heap.size
/-- .. whose bytes lie in a row of its own. -/
structure LgW (w : World) (G : Nat → Prop) (p d t f n : Nat) (R : List (List UInt8)) (vr : Value) (st : Nat) (A : Option Addr) (m c : Nat) (E : List UInt8) : Prop extends LgR w G p d t f n R vr st A m c E where
  own : w.ownsRow 0 5 1 (.slice A m c) E.length (Lib.byteCells E)
  ev : ∀ g, vr.ownBlock = some g → (Value.slice A m c).ownBlock ≠ some g
section
variable {w w' : World} {G : Nat → Prop} {p d t f n : Nat} {R : List (List UInt8)} {vr : Value} {st : Nat} {A : Option Addr} {m c : Nat} {E : List UInt8}
theorem LgR.len (h : LgR w G p d t f n R vr st A m c E) : m = E.length := by
  have := h.en.1
  rw [Lib.byteCells_length] at this
  omega
theorem LgR.keep (h : LgR w G p d t f n R vr st A m c E) (hk : ∀ b, G b → w'.heap[b]? = w.heap[b]?) (hs : w.heap.size ≤ w'.heap.size) : LgR w' G p d t f n R vr st A m c E :=
  { h with
    box := h.box.keep (hk p h.gp)
    rc := own_keep h.rc fun g hg => hk g (h.er g hg).2
    en := ⟨h.en.1, fun hm => by
      obtain ⟨ad, e, hb, hc⟩ := h.en.2 hm
      exact ⟨ad, e, by omega, fun j u hu => (World.cell?_of_block (a := ad.add j) (by rw [block_of_add]; exact hk _ (h.ea ad e).2)).trans (hc j u hu)⟩⟩
    lt := fun b hb => by have := h.lt b hb; omega }
theorem LgW.keep (h : LgW w G p d t f n R vr st A m c E) (hk : ∀ b, G b → w'.heap[b]? = w.heap[b]?) (hs : w.heap.size ≤ w'.heap.size) : LgW w' G p d t f n R vr st A m c E :=
  { h.toLgR.keep hk hs with
    own := own_keep h.own fun g hg => by
      rcases A with _ | ad
      · simp [Value.ownBlock] at hg
      · simp only [Value.ownBlock, Option.some.injEq] at hg
        exact hk g (hg ▸ (h.ea ad rfl).2)
    ev := h.ev }
theorem LgR.below (h : LgR w G p d t f n R vr st A m c E) (hb : Below w.heap.size w w') : LgR w' G p d t f n R vr st A m c E := h.keep (fun b hG => hb.block b (h.lt b hG)) hb.size
theorem LgW.below (h : LgW w G p d t f n R vr st A m c E) (hb : Below w.heap.size w w') : LgW w' G p d t f n R vr st A m c E := h.keep (fun b hG => hb.block b (h.lt b hG)) hb.size
theorem LgR.drewN (h : LgR w G p d t f n R vr st A m c E) (q : Nat) : LgR (w.drewN q) G p d t f n R vr st A m c E := h.keep (fun _ _ => rfl) (Nat.le_refl _)
theorem LgW.drewN (h : LgW w G p d t f n R vr st A m c E) (q : Nat) : LgW (w.drewN q) G p d t f n R vr st A m c E := h.keep (fun _ _ => rfl) (Nat.le_refl _)
theorem LgR.turn {F F' : Nat → Prop} (h : LgR w G p d t f n R vr st A m c E) (T : Turn F w F' w') (ha : ∀ b, F b → ¬ G b) : LgR w' G p d t f n R vr st A m c E := h.keep (fun b hG => T.block b (h.lt b hG) (fun hF => ha b hF hG)) T.size
theorem LgW.turn {F F' : Nat → Prop} (h : LgW w G p d t f n R vr st A m c E) (T : Turn F w F' w') (ha : ∀ b, F b → ¬ G b) : LgW w' G p d t f n R vr st A m c E := h.keep (fun b hG => T.block b (h.lt b hG) (fun hF => ha b hF hG)) T.size
theorem LgR.c0 (h : LgR w G p d t f n R vr st A m c E) : w.cell? ⟨p, 0, none⟩ = some (.pointer (some ⟨p, 0, none⟩)) := h.box.cell rfl
theorem LgR.c1 (h : LgR w G p d t f n R vr st A m c E) : w.cell? ⟨p, 1, none⟩ = some (.pointer (some ⟨d, 0, none⟩)) := h.box.cell rfl
theorem LgR.c2 (h : LgR w G p d t f n R vr st A m c E) : w.cell? ⟨p, 2, none⟩ = some (.int .i64 (t : Int)) := h.box.cell rfl
theorem LgR.c3 (h : LgR w G p d t f n R vr st A m c E) : w.cell? ⟨p, 3, none⟩ = some (.pointer (some ⟨d, 0, none⟩)) := h.box.cell rfl
theorem LgR.c4 (h : LgR w G p d t f n R vr st A m c E) : w.cell? ⟨p, 4, none⟩ = some (.int .i64 (f : Int)) := h.box.cell rfl
theorem LgR.c5 (h : LgR w G p d t f n R vr st A m c E) : w.cell? ⟨p, 5, none⟩ = some (.int .i64 (n : Int)) := h.box.cell rfl
theorem LgR.c6 (h : LgR w G p d t f n R vr st A m c E) : w.cell? ⟨p, 6, none⟩ = some vr := h.box.cell rfl
theorem LgR.c7 (h : LgR w G p d t f n R vr st A m c E) : w.cell? ⟨p, 7, none⟩ = some (.int .i64 (st : Int)) := h.box.cell rfl
theorem LgR.c8 (h : LgR w G p d t f n R vr st A m c E) : w.cell? ⟨p, 8, none⟩ = some (.slice A m c) := h.box.cell rfl
theorem LgR.z (h : LgR w G p d t f n R vr st A m c E) (j : Nat) : w.frozen? ⟨p, j, none⟩ = false := h.box.frozen j
theorem LgR.pl (h : LgR w G p d t f n R vr st A m c E) : p < w.heap.size := h.box.lt
theorem log_row : (Tryz.prog.info? 59).map (fun i => i.size) = some 9 := by kernel_rfl
theorem leql_self (p : Nat) (w : World) : (binOp .eql 27 (.pointer (some ⟨p, 0, none⟩)) (.pointer (some ⟨p, 0, none⟩))).run Tryz.prog w = .ok (.bool true) w := by
  obtain ⟨i, hi, _⟩ := Option.map_eq_some_iff.1 log_row
  exact run_eql_ptr_same w _ Tryz.underlying27 hi
theorem lgiven_any (h : LgR w G p d t f n R vr st A m c E) : Calls Tryz.prog 21 #[.pointer (some ⟨p, 0, none⟩)] w fun e w' => e = .returned (.bool true) ∧ ∃ q, w' = w.drewN q := by
  have hc := h.c0
  have hl := h.pl
  have he := leql_self p w
  clear h
  go_enter Tryz.func21, Tryz.ntmps21
  go_wp2
  go_ret
  exact ⟨rfl, 0, rfl⟩
set_option maxHeartbeats 1000000 in
set_option maxRecDepth 100000 in
theorem room_any (h : LgR w G p d t f n R vr st A m c E) (hn : n ≤ 16384) (hst : 128 * st + E.length ≤ 128 * n) : Calls Tryz.prog 17 #[.pointer (some ⟨p, 0, none⟩)] w (Gives (.int .i64 ((128 * n - (128 * st + E.length) : Nat) : Int)) w) := by
  have hg := lgiven_any h
  have hlen := h.len
  have hbm := fun W => hbytes_any W d f n hn
  unfold halfV at hbm
  have HB := Lib.hid hbm
  have H := Lib.hid h
  have e : ((128 * n - (128 * st + E.length) : Nat) : Int) = ((128 * n : Nat) : Int) - (st : Int) * 128 - (m : Int) := by omega
  rw [e]
  have h1 : (128 : Int) * (n : Int) ≤ 2097152 := by omega
  have h2 : (st : Int) * 128 + (m : Int) ≤ 128 * (n : Int) := by omega
  clear h e hbm hst hlen
  obtain ⟨X, hX⟩ : ∃ X : Int, X = ((128 * n : Nat) : Int) := ⟨_, rfl⟩
  rw [← hX] at HB ⊢
  have hX1 : X ≤ 2097152 := by omega
  have hX2 : (st : Int) * 128 + (m : Int) ≤ X := by omega
  clear hX h1 h2
  go_enter Tryz.func17, Tryz.ntmps17
  go_wp2_with fail
  refine hg.mono ?_
  rintro e w1 ⟨rfl, q, rfl⟩
  have c3 := (H.out.drewN q).c3
  have c4 := (H.out.drewN q).c4
  have c5 := (H.out.drewN q).c5
  have c7 := (H.out.drewN q).c7
  have c8 := (H.out.drewN q).c8
  go_wp2_with fail
  go_region_held3 (fun w' => w'.cell? ⟨p, 3, none⟩ = some (.pointer (some ⟨d, 0, none⟩)) ∧ w'.cell? ⟨p, 4, none⟩ = some (.int .i64 (f : Int)) ∧ w'.cell? ⟨p, 5, none⟩ = some (.int .i64 (n : Int)) ∧ w'.cell? ⟨p, 7, none⟩ = some (.int .i64 (st : Int)) ∧ w'.cell? ⟨p, 8, none⟩ = some (.slice A m c))
    (first | exact ⟨d3, d4, d5, d7, d8⟩ | exact ⟨c3, c4, c5, c7, c8⟩)
    ((go_at_call 30; refine (HB.out _).mono ?_; rintro e w2 ⟨rfl, hb2⟩; have H2 := ((H.out.drewN q).drewN 1).below hb2; have d3 := H2.c3; have d4 := H2.c4; have d5 := H2.c5; have d7 := H2.c7; have d8 := H2.c8))
  go_wp2_with fail
  go_ret
  refine ⟨?_, (below_drewN (Below.refl _ w) (q + 1)).trans hb2⟩
  have hw : IntKind.i64.wrap (IntKind.i64.wrap (X - IntKind.i64.wrap ((st : Int) * 128)) - (m : Int)) = X - (st : Int) * 128 - (m : Int) := by simp only [IntKind.wrap_i64]; omega
  show Ending.returned (.int .i64 (IntKind.i64.wrap (IntKind.i64.wrap (X - IntKind.i64.wrap ((st : Int) * 128)) - (m : Int)))) = _
  rw [hw]
set_option maxHeartbeats 1000000 in
theorem lall_any (h : LgR w G p d t f n R vr st A m c E) (hR : R.length ≤ 1000000) : Calls Tryz.prog 14 #[.pointer (some ⟨p, 0, none⟩)] w fun e w' => ∃ v, e = .returned v ∧ OwnL w' w.heap.size v R ∧ Below w.heap.size w w' := by
  have hg := lgiven_any h
  obtain ⟨A2, c2, hv, hq1, hq2⟩ := own_shape h.rc
  subst hv
  obtain ⟨i0, hi, hz0, hz1, hz2⟩ := info_parts str_row
  have H := Lib.hid h
  clear h
  go_enter Tryz.func14, Tryz.ntmps14
  go_wp2_with fail
  refine hg.mono ?_
  rintro e w1 ⟨rfl, q, rfl⟩
  have c6 := (H.out.drewN q).c6
  have pl := (H.out.drewN q).pl
  have hrd := Lib.hid (Reads.of_own (H.out.drewN q).rc)
  go_wp2_with (at_builtin; refine wpList_append_any _ rfl _ (.tmp 9) 23 rfl w.heap.size 9 i0 _ 1 16 Tryz.underlying23 hi hz0 hz1 hz2 rfl (by decide) (.slice none 0 0) 0 [] rfl (World.ownsRow_nil ..) _ A2 R.length c2 _ rfl hrd.out (strL_one R) (by unfold maxLen; omega) (by omega) (Nat.le_refl _) ?_; intro v' w1 hown hg2 _; rw [Nat.zero_add, List.nil_append] at hown; obtain ⟨A', c', rfl, _, _⟩ := own_shape hown; have hb := below_of_grown hg2 rfl)
  go_ret
  exact ⟨_, rfl, hown, (below_drewN (Below.refl _ w) q).trans hb⟩
end
end Go.Proofs.YtkehojgiappiiaaGreatDoor
