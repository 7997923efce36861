/- SMoves, SReopM, SReop, CReop in one text. Conditions: as each part says. -/
import Derived.Test.YtegjjhjgfkcbhaaGreatDoorH50
import Derived.Test.YtegjjhjgfkcbhaaGreatDoorTie
import Derived.Test.YtegjjhjgfkcbhaaGreatDoorCards
import Derived.ProofKit
import Derived.ShutString
import Derived.OpenShut
import Derived.ChangeOld
import Derived.Lay
import Derived.Lib.LaidTab
import Derived.Stop.LaidErr
import Derived.SevenTiedAt
import Derived.SliceStrings
section
set_option linter.unusedVariables false
set_option linter.unusedSimpArgs false
set_option maxRecDepth 100000
namespace Go.Proofs.YtegjjhjgfkcbhaaGreatDoor
open Go Go.RowKit
section
variable {w w' : World} {B : Nat} {F Fd Gd Fk Ft : Nat → Prop} {s d lp g t p N tn st : Nat} {su : List ByteArray} {R : List RK} {k : KS} {Z : Nat → Prop}
theorem pts_none (w : World) : Pts w w.heap.size none 0 [] := ⟨Reads.none_, fun q hq => by cases hq⟩
theorem mvB_s64 {n : Int} (h : mvB n = true) : Be.S64 n ∧ 1 ≤ n ∧ n ≤ 1099511627776 := by
  have := of_decide_eq_true h
  exact ⟨⟨by omega, by omega⟩, this⟩
/-- A record of how it stands is kept. -/
theorem keep_stand (h : ShR w B Fd Gd Fk Ft s d lp g t p N tn st su R k) (a b c : Int) (ha : Be.S64 a) (hb : Be.S64 b) (hc : Be.S64 c) (hfit : (encs (R.map RK.bytes)).length + ((RK.stand a b c).bytes.length + 14) ≤ 128 * hB N tn) :
    Calls Tryz.prog 52 #[.pointer (some ⟨s, 0, none⟩), .agg #[.int .i64 3, .int .i64 a, .int .i64 b, .int .i64 c, .int .i64 0, .int .i64 0, .int .i64 0, .int .i64 0, .string .empty, .slice none 0 0]] w (KeepPost B s d N tn (Za Fd Gd Fk s) (R ++ [RK.stand a b c]) (standK k a b c) w) :=
  keep_ok h (RK.stand a b c) (fun m e => by cases e) ⟨ha, hb, hc⟩ (h.good.stand ha hb hc) hfit none 0 0 [] (pts_none w) rfl ⟨(fun ad e => by cases e), (fun q hq => by cases hq)⟩
set_option maxHeartbeats 2000000 in
theorem seal_ok (h : ShR w B Fd Gd Fk Ft s d lp g t p N tn st su R k) (hst : k.st = 2) (mv : Int) (hm : mvB mv = true) (hlt : k.mv < mv) (hfit : (encs (R.map RK.bytes)).length + ((RK.stand 3 k.ep mv).bytes.length + 14) ≤ 128 * hB N tn) :
    Calls Tryz.prog 22 #[.pointer (some ⟨s, 0, none⟩), .int .i64 mv] w (KeepPost B s d N tn (Za Fd Gd Fk s) (R ++ [RK.stand 3 k.ep mv]) (standK k 3 k.ep mv) w) := by
  have s2 : w.cell? ⟨s, 2, none⟩ = some (.pointer (some ⟨g, 0, none⟩)) := h.b.row.cell rfl
  have hsl := h.b.row.lt
  have c2 := h.kept.c2
  have c3 := h.kept.c3
  have hgl := h.kept.gl
  have HG := Lib.hid (sgiven_any h)
  have HN := Lib.hid (isNum_any mv w)
  rw [hm] at HN
  have HS2 := Lib.hid (sis_any h 2)
  rw [show (k.st == 2) = true by simp [hst]] at HS2
  have HS3 := Lib.hid (sis_any h 3)
  rw [show (k.st == 3) = false by simp [hst]] at HS3
  have HK := Lib.hid (keep_stand h 3 k.ep mv ⟨by decide, by decide⟩ h.good.ep (mvB_s64 hm).1 hfit)
  have hge : ¬ mv ≤ k.mv := by omega
  clear h hst hm hfit hlt
  go_enter Tryz.func22, Tryz.ntmps22
  go_wp2_with (first | (with_reducible refine HG.out.mono ?_; rintro e w1 ⟨rfl, rfl⟩) | (with_reducible refine HN.out.mono ?_; rintro e w1 ⟨rfl, rfl⟩) | (with_reducible refine HS3.out.mono ?_; rintro e w1 ⟨rfl, rfl⟩) | (with_reducible refine HS2.out.mono ?_; rintro e w1 ⟨rfl, rfl⟩))
  refine HK.out.mono ?_
  rintro e w2 ⟨rfl, hp⟩
  go_wp2_with fail
  go_ret
  exact ⟨rfl, hp⟩
set_option maxHeartbeats 2000000 in
theorem seal_old (h : ShR w B Fd Gd Fk Ft s d lp g t p N tn st su R k) (hst : k.st = 2) (mv : Int) (hm : mvB mv = true) (hlt : mv ≤ k.mv) :
    Calls Tryz.prog 22 #[.pointer (some ⟨s, 0, none⟩), .int .i64 mv] w fun e w' => e = .returned (.int .i64 90) ∧ w = w' := by
  have s2 : w.cell? ⟨s, 2, none⟩ = some (.pointer (some ⟨g, 0, none⟩)) := h.b.row.cell rfl
  have hsl := h.b.row.lt
  have c3 := h.kept.c3
  have hgl := h.kept.gl
  have HG := Lib.hid (sgiven_any h)
  have HN := Lib.hid (isNum_any mv w)
  rw [hm] at HN
  have HS2 := Lib.hid (sis_any h 2)
  rw [show (k.st == 2) = true by simp [hst]] at HS2
  have HS3 := Lib.hid (sis_any h 3)
  rw [show (k.st == 3) = false by simp [hst]] at HS3
  clear h hst hm
  go_enter Tryz.func22, Tryz.ntmps22
  go_wp2_with (first | (with_reducible refine HG.out.mono ?_; rintro e w1 ⟨rfl, rfl⟩) | (with_reducible refine HN.out.mono ?_; rintro e w1 ⟨rfl, rfl⟩) | (with_reducible refine HS3.out.mono ?_; rintro e w1 ⟨rfl, rfl⟩) | (with_reducible refine HS2.out.mono ?_; rintro e w1 ⟨rfl, rfl⟩))
  go_ret
  exact ⟨rfl, rfl⟩
set_option maxHeartbeats 2000000 in
theorem points_sealed (h : ShR w B Fd Gd Fk Ft s d lp g t p N tn st su R k) (hst : k.st = 3) : Calls Tryz.prog 21 #[.pointer (some ⟨s, 0, none⟩)] w fun e w' => e = .returned (.slice none 0 0) ∧ w = w' := by
  have HG := Lib.hid (sgiven_any h)
  have HS2 := Lib.hid (sis_any h 2)
  rw [show (k.st == 2) = false by simp [hst]] at HS2
  have HS1 := Lib.hid (sis_any h 1)
  rw [show (k.st == 1) = false by simp [hst]] at HS1
  clear h hst
  go_enter Tryz.func21, Tryz.ntmps21
  go_wp2_with (first | (with_reducible refine HG.out.mono ?_; rintro e w1 ⟨rfl, rfl⟩) | (with_reducible refine HS2.out.mono ?_; rintro e w1 ⟨rfl, rfl⟩) | (with_reducible refine HS1.out.mono ?_; rintro e w1 ⟨rfl, rfl⟩))
  go_ret
  exact ⟨rfl, rfl⟩
set_option maxHeartbeats 2000000 in
theorem reopen_epoch (h : ShR w B Fd Gd Fk Ft s d lp g t p N tn st su R k) (hst : k.st = 3) (mv ep : Int) (hm : mvB mv = true) (he : mvB ep = true) (hmv : k.mv = mv) (hep : ep ≤ k.ep) :
    Calls Tryz.prog 32 #[.pointer (some ⟨s, 0, none⟩), .int .i64 mv, .int .i64 ep] w fun e w' => e = .returned (.int .i64 101) ∧ w = w' := by
  subst hmv
  have s2 : w.cell? ⟨s, 2, none⟩ = some (.pointer (some ⟨g, 0, none⟩)) := h.b.row.cell rfl
  have hsl := h.b.row.lt
  have c2 := h.kept.c2
  have c3 := h.kept.c3
  have hgl := h.kept.gl
  have HG := Lib.hid (sgiven_any h)
  have HN := Lib.hid (isNum_any k.mv w)
  rw [hm] at HN
  have HE := Lib.hid (isNum_any ep w)
  rw [he] at HE
  have HS2 := Lib.hid (sis_any h 2)
  rw [show (k.st == 2) = false by simp [hst]] at HS2
  have HS3 := Lib.hid (sis_any h 3)
  rw [show (k.st == 3) = true by simp [hst]] at HS3
  have hgt : ¬ k.mv < k.mv := by omega
  clear h hst hm he
  go_enter Tryz.func32, Tryz.ntmps32
  go_wp2_with (first | (with_reducible refine HG.out.mono ?_; rintro e w1 ⟨rfl, rfl⟩) | (with_reducible refine HN.out.mono ?_; rintro e w1 ⟨rfl, rfl⟩) | (with_reducible refine HE.out.mono ?_; rintro e w1 ⟨rfl, rfl⟩) | (with_reducible refine HS3.out.mono ?_; rintro e w1 ⟨rfl, rfl⟩) | (with_reducible refine HS2.out.mono ?_; rintro e w1 ⟨rfl, rfl⟩))
  go_ret
  exact ⟨rfl, rfl⟩
set_option maxHeartbeats 2000000 in
theorem reopen_sealed (h : ShR w B Fd Gd Fk Ft s d lp g t p N tn st su R k) (hst : k.st = 3) (mv ep : Int) (hm : mvB mv = true) (he : mvB ep = true) (hmv : k.mv < mv) :
    Calls Tryz.prog 32 #[.pointer (some ⟨s, 0, none⟩), .int .i64 mv, .int .i64 ep] w fun e w' => e = .returned (.int .i64 100) ∧ w = w' := by
  have s2 : w.cell? ⟨s, 2, none⟩ = some (.pointer (some ⟨g, 0, none⟩)) := h.b.row.cell rfl
  have hsl := h.b.row.lt
  have c2 := h.kept.c2
  have c3 := h.kept.c3
  have hgl := h.kept.gl
  have HG := Lib.hid (sgiven_any h)
  have HN := Lib.hid (isNum_any mv w)
  rw [hm] at HN
  have HE := Lib.hid (isNum_any ep w)
  rw [he] at HE
  have HS2 := Lib.hid (sis_any h 2)
  rw [show (k.st == 2) = false by simp [hst]] at HS2
  have HS3 := Lib.hid (sis_any h 3)
  rw [show (k.st == 3) = true by simp [hst]] at HS3
  have hgt : ¬ mv < k.mv := by omega
  have hne : (k.mv == mv) = false := by rw [beq_eq_false_iff_ne]; omega
  clear h hst hm he
  go_enter Tryz.func32, Tryz.ntmps32
  go_wp2_with (first | (with_reducible refine HG.out.mono ?_; rintro e w1 ⟨rfl, rfl⟩) | (with_reducible refine HN.out.mono ?_; rintro e w1 ⟨rfl, rfl⟩) | (with_reducible refine HE.out.mono ?_; rintro e w1 ⟨rfl, rfl⟩) | (with_reducible refine HS3.out.mono ?_; rintro e w1 ⟨rfl, rfl⟩) | (with_reducible refine HS2.out.mono ?_; rintro e w1 ⟨rfl, rfl⟩))
  go_ret
  exact ⟨rfl, rfl⟩
set_option maxHeartbeats 2000000 in
theorem reopen_ok (h : ShR w B Fd Gd Fk Ft s d lp g t p N tn st su R k) (hst : k.st = 3) (mv ep : Int) (hm : mvB mv = true) (he : mvB ep = true) (hmv : k.mv = mv) (hep : k.ep < ep) (hfit : (encs (R.map RK.bytes)).length + ((RK.stand 2 ep mv).bytes.length + 14) ≤ 128 * hB N tn) :
    Calls Tryz.prog 32 #[.pointer (some ⟨s, 0, none⟩), .int .i64 mv, .int .i64 ep] w (KeepPost B s d N tn (Za Fd Gd Fk s) (R ++ [RK.stand 2 ep mv]) (standK k 2 ep mv) w) := by
  have HK := Lib.hid (keep_stand h 2 ep mv ⟨by decide, by decide⟩ (mvB_s64 he).1 (mvB_s64 hm).1 hfit)
  have s2 : w.cell? ⟨s, 2, none⟩ = some (.pointer (some ⟨g, 0, none⟩)) := h.b.row.cell rfl
  have hsl := h.b.row.lt
  have c2 := h.kept.c2
  have c3 := h.kept.c3
  have hgl := h.kept.gl
  have HG := Lib.hid (sgiven_any h)
  have HN := Lib.hid (isNum_any mv w)
  rw [hm] at HN
  have HE := Lib.hid (isNum_any ep w)
  rw [he] at HE
  have HS2 := Lib.hid (sis_any h 2)
  rw [show (k.st == 2) = false by simp [hst]] at HS2
  have HS3 := Lib.hid (sis_any h 3)
  rw [show (k.st == 3) = true by simp [hst]] at HS3
  rw [hmv] at c3
  have hgt : ¬ mv < mv := by omega
  have hle : ¬ ep ≤ k.ep := by omega
  clear h hst hm he hmv hfit hep
  go_enter Tryz.func32, Tryz.ntmps32
  go_wp2_with (first | (with_reducible refine HG.out.mono ?_; rintro e w1 ⟨rfl, rfl⟩) | (with_reducible refine HN.out.mono ?_; rintro e w1 ⟨rfl, rfl⟩) | (with_reducible refine HE.out.mono ?_; rintro e w1 ⟨rfl, rfl⟩) | (with_reducible refine HS3.out.mono ?_; rintro e w1 ⟨rfl, rfl⟩) | (with_reducible refine HS2.out.mono ?_; rintro e w1 ⟨rfl, rfl⟩))
  refine HK.out.mono ?_
  rintro e w2 ⟨rfl, hp⟩
  go_wp2_with fail
  go_ret
  exact ⟨rfl, hp⟩
set_option maxHeartbeats 2000000 in
theorem reopen_again (h : ShR w B Fd Gd Fk Ft s d lp g t p N tn st su R k) (hst : k.st = 2) (mv ep : Int) (hm : mvB mv = true) (he : mvB ep = true) (hmv : k.mv = mv) (hep : k.ep = ep) :
    Calls Tryz.prog 32 #[.pointer (some ⟨s, 0, none⟩), .int .i64 mv, .int .i64 ep] w fun e w' => e = .returned (.int .i64 0) ∧ w = w' := by
  have s2 : w.cell? ⟨s, 2, none⟩ = some (.pointer (some ⟨g, 0, none⟩)) := h.b.row.cell rfl
  have hsl := h.b.row.lt
  have c2 := h.kept.c2
  have c3 := h.kept.c3
  have hgl := h.kept.gl
  have HG := Lib.hid (sgiven_any h)
  have HN := Lib.hid (isNum_any mv w)
  rw [hm] at HN
  have HE := Lib.hid (isNum_any ep w)
  rw [he] at HE
  have HS2 := Lib.hid (sis_any h 2)
  rw [show (k.st == 2) = true by simp [hst]] at HS2
  rw [hmv] at c3
  rw [hep] at c2
  clear h hst hm he hmv hep
  go_enter Tryz.func32, Tryz.ntmps32
  go_wp2_with (first | (with_reducible refine HG.out.mono ?_; rintro e w1 ⟨rfl, rfl⟩) | (with_reducible refine HN.out.mono ?_; rintro e w1 ⟨rfl, rfl⟩) | (with_reducible refine HE.out.mono ?_; rintro e w1 ⟨rfl, rfl⟩) | (with_reducible refine HS2.out.mono ?_; rintro e w1 ⟨rfl, rfl⟩))
  go_ret
  exact ⟨rfl, rfl⟩
end
end Go.Proofs.YtegjjhjgfkcbhaaGreatDoor
end
section
set_option linter.unusedVariables false
set_option linter.unusedSimpArgs false
set_option maxRecDepth 100000
namespace Go.Proofs.YtegjjhjgfkcbhaaGreatDoor
open Go Go.RowKit
/-- So many changes were done, of the client 0. -/
structure ReI (i : Nat) (R : List RK) (k : KS) : Prop where
  st : k.st = 2
  dm : k.dm = 2
  ep : k.ep = 1
  mv : k.mv = 0
  vr : k.vr = (i : Int)
  np : NoPts R
  len : R.length = i + 1
  few : k.T.length ≤ i
  last : k.q[0]!.s = (i : Int)
theorem re0 : ReI 0 aR0 aK0 := ⟨rfl, rfl, rfl, rfl, rfl, (fun r hr m => by simp at hr; subst hr; exact (fun h => by cases h)), rfl, Nat.le_refl _, by decide +kernel⟩
theorem cki0 (i : Nat) (hi : i < 20) : ck [(i : Int), 0] 2 = 0 := by
  rcases (show i = 0 ∨ i = 1 ∨ i = 2 ∨ i = 3 ∨ i = 4 ∨ i = 5 ∨ i = 6 ∨ i = 7 ∨ i = 8 ∨ i = 9 ∨ i = 10 ∨ i = 11 ∨ i = 12 ∨ i = 13 ∨ i = 14 ∨ i = 15 ∨ i = 16 ∨ i = 17 ∨ i = 18 ∨ i = 19 by omega) with rfl | rfl | rfl | rfl | rfl | rfl | rfl | rfl | rfl | rfl | rfl | rfl | rfl | rfl | rfl | rfl | rfl | rfl | rfl | rfl <;> decide +kernel
theorem ReI.step {i : Nat} {R : List RK} {k : KS} (h : ReI i R k) (hg : k.Good) (hi : i < 20) (x : Int) (v : List Int) : ReI (i + 1) (R ++ [RK.ins 0 ((i : Int) + 1) (x, v)]) (insK k 0 ((i : Int) + 1) (x, v)) := by
  have hl := hasT_len (x := x) (v := v) hg.rise
  refine ⟨h.st, h.dm, h.ep, h.mv, ?_, h.np.snoc (fun m e => by cases e), by rw [List.length_append, h.len]; rfl, ?_, ?_⟩
  · show k.vr + 1 = _
    rw [h.vr]
    omega
  · show (putT x v k.T).length ≤ i + 1
    have := h.few
    split at hl <;> omega
  · have := put_last (c := 0) (n := (i : Int) + 1) hg.tab (may2 (by omega) (by omega) 0 (by omega)) (by show k.q[0]!.s < _; rw [h.last]; omega) (hasT x k.T)
    show ((Be.putM k.q 0 ((i : Int) + 1) 0 (hasT x k.T)).1)[0]!.s = _
    refine Eq.trans this ?_
    omega
def ReSt (w0 : World) (x d n : Nat) (wr : World) : Prop := ∃ s Z R k, Side wr w0.heap.size Z x s d 1 R k (qNew 2) ∧ ReI n R k ∧ Below w0.heap.size w0 wr
section
variable {w w' w5 w6 w7 : World} {B : Nat} {Z Z' P : Nat → Prop} {x s d tn : Nat} {R R' : List RK} {k k' : KS} {qs : List Value}
theorem Side.kept (hS : Side w B Z x s d tn R k qs) (h : ShW w' B Z' s d 4000 tn R' k') (T : Turn Z w Z' w') : Side w' B Z' x s d tn R' k' qs :=
  ⟨h, hS.row.keep (T.block _ hS.row.lt hS.nx), fun hz => by
    rcases T.foot x hz with h | h
    · exact hS.nx h
    · have := hS.row.lt
      omega, hS.xB⟩
theorem stand_fit (h : ShW w B Z s d 4000 tn R k) (hn : NoPts R) (hl : R.length ≤ 100) (a b c : Int) (ha : Be.S64 a) (hb : Be.S64 b) (hc : Be.S64 c) : (encs (R.map RK.bytes)).length + ((RK.stand a b c).bytes.length + 14) ≤ 128 * hB 4000 tn := by
  have h1 := h.encs1 hn
  have h2 := hB_big tn
  have h3 : (RK.bytes (RK.stand a b c)).length ≤ 32768 := recB_len (RK.May.ok (k := k) (r := RK.stand a b c) ⟨ha, hb, hc⟩)
  omega
/-- A step that keeps what P names. -/
theorem OnceMid.step {w0 : World} (hPl : ∀ b, P b → b < w5.heap.size) (hS : Side w6 w0.heap.size Z x s d 1 R k (qNew 2)) (hO : Off P Z) (hT : Turn (fun b => ¬ P b) w5 (fun b => ¬ P b) w6) (hb : Below w0.heap.size w0 w6) (h : ShW w7 w0.heap.size Z' s d 4000 1 R' k') (T : Turn Z w6 Z' w7) :
    Side w7 w0.heap.size Z' x s d 1 R' k' (qNew 2) ∧ Off P Z' ∧ Turn (fun b => ¬ P b) w5 (fun b => ¬ P b) w7 ∧ Below w0.heap.size w0 w7 :=
  ⟨hS.kept h T, hO.turn T (fun b hp => Nat.lt_of_lt_of_le (hPl b hp) hT.size), hT.trans (turn_off hO T), hb.trans (T.down hS.sh.far hb.size)⟩
theorem OnceMid.fails {w0 : World} (hPl : ∀ b, P b → b < w5.heap.size) (hPx : ¬ P x) (hS : Side w6 w0.heap.size Z x s d 1 R k (qNew 2)) (hO : Off P Z) (hT : Turn (fun b => ¬ P b) w5 (fun b => ¬ P b) w6) (hb : Below w0.heap.size w0 w6) (T : Turn (fun b => Z b ∨ b = x) w6 (fun b => Z' b ∨ b = x) w7) :
    Off P Z' ∧ Turn (fun b => ¬ P b) w5 (fun b => ¬ P b) w7 ∧ Below w0.heap.size w0 w7 := by
  have hO2 : Off P (fun b => Z b ∨ b = x) := fun b hp h => h.elim (hO b hp) (fun e => hPx (e ▸ hp))
  exact ⟨fun b hp hz => hO2.turn T (fun b hp => Nat.lt_of_lt_of_le (hPl b hp) hT.size) b hp (.inl hz), hT.trans (turn_off hO2 T), hb.trans (T.down (fun b h => h.elim (hS.sh.far b) (fun e => by rw [e]; exact hS.xB)) hb.size)⟩
end
theorem i64_and255 (n : Int) : bits .and .i64 n 255 = n % 256 := by
  have hm : (BitVec.ofInt 64 255).toNat = 2 ^ 8 - 1 := by decide
  have key : (BitVec.ofInt 64 n &&& BitVec.ofInt 64 255).toNat = (n % ((2 ^ 64 : Nat) : Int)).toNat % 2 ^ 8 := by
    rw [BitVec.toNat_and, BitVec.toNat_ofInt, hm, Nat.and_two_pow_sub_one_eq_mod]
  show IntKind.i64.wrap ((BitVec.ofInt 64 n &&& BitVec.ofInt 64 255).toNat : Nat) = n % 256
  rw [key, IntKind.wrap_i64]
  omega
end Go.Proofs.YtegjjhjgfkcbhaaGreatDoor
end
section
set_option linter.unusedVariables false
set_option linter.unusedSimpArgs false
set_option maxRecDepth 100000
namespace Go.Proofs.YtegjjhjgfkcbhaaGreatDoor
open Go Go.RowKit
def ReW (w3 : World) (B : Nat) (Z : Nat → Prop) (x s d : Nat) (R : List RK) (k : KS) (wc : World) : Prop := ∃ Z', Side wc B Z' x s d 1 R k (qNew 2) ∧ Turn Z w3 Z' wc
theorem rew_of {w3 w5 w6 : World} {B : Nat} {Z : Nat → Prop} {x s d : Nat} {R R' : List RK} {k k' : KS} (hS : Side w3 B Z x s d 1 R k (qNew 2)) (hb : Below w3.heap.size w3 w5) (hp : PostF B Z s d 1 R' k' w5 w6) : ReW w3 B Z x s d R' k' w6 := by
  obtain ⟨Z', h, T⟩ := hp
  have hT := (Turn.below Z hb).trans T
  exact ⟨Z', hS.kept h hT, hT⟩
section
variable {w : World} {B : Nat} {Z : Nat → Prop} {s d tn : Nat} {R : List RK} {k : KS}
theorem wseal (h : ShW w B Z s d 4000 tn R k) (hst : k.st = 2) (hep : k.ep = 1 ∨ k.ep = 5) (hn : NoPts R) (hl : R.length ≤ 100) (mv : Int) (hm : mvB mv = true) (hlt : k.mv < mv) : Calls Tryz.prog 22 #[.pointer (some ⟨s, 0, none⟩), .int .i64 mv] w (KeepPost B s d 4000 tn Z (R ++ [RK.stand 3 k.ep mv]) (standK k 3 k.ep mv) w) := by
  have hf := stand_fit h hn hl 3 k.ep mv ⟨by decide, by decide⟩ h.good.ep (mvB_s64 hm).1
  obtain ⟨Fd, Gd, Fk, Ft, lp, g, t, p, st, su, h, rfl⟩ := h
  exact seal_ok h hst mv hm hlt hf
theorem wreopen (h : ShW w B Z s d 4000 tn R k) (hst : k.st = 3) (hn : NoPts R) (hl : R.length ≤ 100) (mv ep : Int) (hm : mvB mv = true) (he : mvB ep = true) (hmv : k.mv = mv) (hep : k.ep < ep) : Calls Tryz.prog 32 #[.pointer (some ⟨s, 0, none⟩), .int .i64 mv, .int .i64 ep] w (KeepPost B s d 4000 tn Z (R ++ [RK.stand 2 ep mv]) (standK k 2 ep mv) w) := by
  have hf := stand_fit h hn hl 2 ep mv ⟨by decide, by decide⟩ (mvB_s64 he).1 (mvB_s64 hm).1
  obtain ⟨Fd, Gd, Fk, Ft, lp, g, t, p, st, su, h, rfl⟩ := h
  exact reopen_ok h hst mv ep hm he hmv hep hf
end
set_option maxHeartbeats 8000000 in
theorem shardReopens_walk (A0 : Option Addr) (len cap : Nat) (l : List Int) (mv kp : Int) (w : World) (hR : Reads w w.heap.size 1 A0 len (ints l)) (hlm : len ≤ maxLen) (hz : ∀ z ∈ l, Be.S64 z) (hmv : Be.S64 mv) (hkp : Be.S64 kp) (hT : Tab w w.heap.size) (hP : Tabs w w.heap.size) : Calls Tryz.prog 8 #[.slice A0 len cap, .int .i64 mv, .int .i64 kp] w (Gives (.bool true) w) := by
  have HBE := Lib.hid (begun_any w hT hP)
  have HAW := Lib.hid (fun (w' : World) (hb : Below w.heap.size w w') => sawake_any (B := w.heap.size) w' (hT.on hb) (hP.on hb))
  have HR := Lib.hid hR
  have HZL := Lib.hid hz
  have hb255 := i64_and255 mv
  obtain ⟨m0, hm0⟩ : ∃ m0, mv % 256 = m0 := ⟨_, rfl⟩
  have hm00 : 0 ≤ m0 := by omega
  have hm01 : m0 ≤ 255 := by omega
  rw [hm0] at hb255
  unfold maxLen at hlm
  clear hR hT hP hz hm0 hmv
  go_enter Tryz.func8, Tryz.ntmps8
  go_wp2_with fail
  refine HBE.out.mono ?_
  rintro e w1 hpost
  unfold BegunPost at hpost
  obtain ⟨x, s, d, Z1, rfl, S1, hb1w⟩ := hpost
  have x1 := S1.row.cell (j := 1) (u := .pointer (some ⟨s, 0, none⟩)) rfl
  have xl := S1.row.lt
  have HS1 := Lib.hid S1
  have HB1 := Lib.hid hb1w
  have hfo : Calls Tryz.prog 15 #[.pointer (some ⟨s, 0, none⟩), .int .i64 1] w1 (EmptyPost w.heap.size s d 4000 0 Z1 2 2 1 0 w1) := by
    obtain ⟨Fd, Gd, Fk, Ft, lp, g, t, p, st, su, h, rfl⟩ := S1.sh
    have hk : (ks0 2).dm = 2 := rfl
    have hmay : (emptyR 2 2 1 0).May (ks0 2) := ⟨⟨by decide, by decide⟩, ⟨by decide, by decide⟩, ⟨by decide, by decide⟩, ⟨by omega, by omega⟩, by decide, Be.okq0⟩
    have hbl : (RK.bytes (emptyR 2 2 1 0)).length ≤ 32768 := recB_len (RK.May.ok hmay)
    refine found_ok h (by omega) 1 (by decide) rfl (by decide) ?_
    show (encs [(emptyR 2 2 1 0).bytes]).length ≤ 128 * hB 4000 1
    rw [encs_cons, List.length_append, enc_len]
    have : (encs []).length = 0 := rfl
    have : hB 4000 1 = 1999 := rfl
    omega
  have HFO := Lib.hid hfo
  clear S1 hb1w hfo HBE
  go_wp2_with fail
  refine HFO.out.mono ?_
  rintro e w2 ⟨rfl, Z2, hs2, hT2⟩
  have S2 : Side w2 w.heap.size Z2 x s d 1 aR0 aK0 (qNew 2) := ⟨hs2, HS1.out.row.keep (hT2.block _ HS1.out.row.lt HS1.out.nx), fun hz => by
    rcases hT2.foot x hz with h | h
    · exact HS1.out.nx h
    · have := HS1.out.row.lt
      omega, HS1.out.xB⟩
  have HB2 := Lib.hid (HB1.out.trans (hT2.down HS1.out.sh.far HS1.out.sh.tabs.1.le))
  have HST0 := Lib.hid (show ReSt w x d 0 w2 from ⟨s, Z2, _, _, S2, re0, HB2.out⟩)
  clear HFO x1 xl hs2 hT2 S2 HS1 HB1 HB2
  obtain ⟨nn, hnn, hnl, hn20⟩ : ∃ nn : Nat, nn = min len 20 ∧ nn ≤ len ∧ nn ≤ 20 := ⟨_, rfl, by omega, by omega⟩
  have HNN := Lib.hid hnn
  clear hnn
  go_upto_region 4 with fail
  go_cut [9] from 31 to 33 (fun s9 wc => s9 = .int .i64 (nn : Int) ∧ wc = w2)
  case first =>
    rcases Nat.lt_trichotomy len 20 with hlt | heq | hlt
    · obtain rfl : nn = len := by have := HNN.out; omega
      have h1 : (nn : Int) < 20 := by omega
      have h2 : ¬ (20 : Int) < (nn : Int) := by omega
      have h3 : min (nn : Int) 20 = (nn : Int) := by omega
      go_wp2_with fail
      go_meet
      exact ⟨rfl, rfl⟩
    · obtain rfl : nn = 20 := by have := HNN.out; omega
      subst heq
      go_wp2_with fail
      go_meet
      exact ⟨rfl, rfl⟩
    · obtain rfl : nn = 20 := by have := HNN.out; omega
      have h1 : ¬ (len : Int) < 20 := by omega
      have h2 : (20 : Int) < (len : Int) := by omega
      have h3 : Hid (min (len : Int) 20 = ((20 : Nat) : Int)) := Lib.hid (by omega)
      go_wp2_with fail
      go_meet
      exact ⟨by rw [h3.out], rfl⟩
  case rest =>
  obtain ⟨rfl, rfl⟩ := hcut
  go_wp2_with fail
  go_loopw [10] (fun i wr => ∃ n : Nat, i = .int .i64 (n : Int) ∧ n ≤ nn ∧ ReSt w x d n wr) (fun i _ => nn - (intOf i).toNat)
  case atStart => exact ⟨0, rfl, by omega, HST0.out⟩
  case round =>
    clear HST0
    obtain ⟨n, rfl, hnle, s, Z3, R, k, S3, HO, hb3⟩ := hrel
    obtain ⟨w3, hw3⟩ : ∃ w3, w3 = wr := ⟨_, rfl⟩
    subst hw3
    by_cases hlt : n < nn
    · have hltz : (n : Int) < (nn : Int) := by omega
      have hltl : (n : Int) < (len : Int) := by omega
      obtain ⟨ad, rfl, hab, hc⟩ := HR.out.int_at (k := n) (by omega)
      have i1 := (hb3.cell (p := ad.add n) (by rw [block_of_add]; exact hab)).trans hc
      have hv64 : Be.S64 (l.getD n 0) := by
        have hl := HR.out.len
        rw [List.getD_eq_getElem?_getD, List.getElem?_eq_getElem (by omega)]
        exact HZL.out _ (List.getElem_mem _)
      obtain ⟨v, hv⟩ : ∃ v, l.getD n 0 = v := ⟨_, rfl⟩
      rw [hv] at i1 hv64
      have il : (ad.add n).block < w3.heap.size := by rw [block_of_add]; exact Nat.lt_of_lt_of_le hab hb3.size
      have iZ : ¬ Z3 (ad.add n).block := fun hZ => by have := S3.sh.far _ hZ; rw [block_of_add] at this; omega
      have hwrap1 : IntKind.i64.wrap ((n : Int) + 1) = (n : Int) + 1 := by rw [IntKind.wrap_i64]; omega
      have hgood := S3.sh.good
      have hstep := HO.step hgood (by omega) v [(n : Int), 0]
      have hm2 : Be.mayB 0 ((n : Int) + 1) = true := may2 (by omega) (by omega) 0 (by omega)
      have hf3 : (Be.findM k.q 0 ((n : Int) + 1)).2 = 3 := find_new hm2 (by show k.q[0]!.s < _; rw [HO.last]; omega)
      have hcon : ∀ (w5 : World) (A : Addr), Below w3.heap.size w3 w5 → Reads w5 w5.heap.size 1 (some A) 2 (ints [(n : Int), 0]) → w3.heap.size ≤ A.block → Calls Tryz.prog 16 #[.pointer (some ⟨s, 0, none⟩), .int .i64 0, .int .i64 ((n : Int) + 1), .agg #[.int .i64 1, .int .i64 v, .slice (some A) 2 2, .int .i64 0]] w5 (WrP w.heap.size Z3 s d 1 (R ++ [RK.ins 0 ((n : Int) + 1) (v, [(n : Int), 0])]) (insK k 0 ((n : Int) + 1) (v, [(n : Int), 0])) 0 (hasT v k.T) 0 w5) := fun w5 A hb hr hA =>
        wcon_put S3.sh HO.st 0 _ _ _ _ hm2 hf3 (by have := HO.few; omega) (by rw [HO.dm]; exact cki0 n (by omega)) hv64 (by rw [HO.vr]; omega) HO.np (by rw [HO.len]; omega) hb hr hA
      have HSTEP := Lib.hid hstep
      have HB3 := Lib.hid hb3
      have x1 := S3.row.cell (j := 1) (u := .pointer (some ⟨s, 0, none⟩)) rfl
      have xl := S3.row.lt
      clear hc hv hb3 hgood hstep hm2 hf3 HO hab
      generalize hasT v k.T = b0 at *
      generalize hR1 : R ++ [RK.ins 0 ((n : Int) + 1) (v, [(n : Int), 0])] = R1 at *
      generalize hK1 : insK k 0 ((n : Int) + 1) (v, [(n : Int), 0]) = K1 at *
      clear hR1 hK1
      have sS : ∀ w5, Below w3.heap.size w3 w5 → w5.cell? ⟨x, 1, none⟩ = some (.pointer (some ⟨s, 0, none⟩)) ∧ w5.cell? (ad.add n) = some (.int .i64 v) := fun w5 hb => ⟨sx_below x1 xl hb, (hb.cell il).trans i1⟩
      have HI3 := Lib.hid (And.intro i1 (And.intro il iZ))
      have HX3 := Lib.hid (And.intro x1 (And.intro xl S3.nx))
      have HA3 := Lib.hid (fun (w5 : World) (A : Addr) (h : InsF w3.drew (n : Int) 0 w5 A) => And.intro (sS w5 (insf1 h).1) (hcon _ A (insf1 h).1 (insf1 h).2.1 (insf1 h).2.2))
      have HJ1 := Lib.hid (xins_p v (n : Int) 0 w3.drew)
      have HS3 := Lib.hid S3
      clear S3 sS hcon
      go_upto_region 8 with fail
      go_region_held3 (fun w' => w'.cell? ⟨x, 1, none⟩ = some (.pointer (some ⟨s, 0, none⟩)) ∧ w'.cell? (ad.add n) = some (.int .i64 v))
        (first | with_reducible exact ⟨x1, i1⟩ | with_reducible exact HS5.out | with_reducible exact HS6.out | go_keep)
        (first
          | (go_at_call 25; with_reducible refine HJ1.out.mono ?_; intro e w5 hpost; unfold InsP at hpost; obtain ⟨A, rfl, hi⟩ := hpost; have HII := Lib.hid hi; have HE := Lib.hid (HA3.out w5 A hi); have HS5 := Lib.hid HE.out.1; have x5 := HE.out.1.1; have i5 := HE.out.1.2; clear hi)
          | (go_at_call 16; with_reducible refine HE.out.2.mono ?_; intro e w4 hpost; unfold WrP at hpost; obtain ⟨rfl, hp⟩ := hpost; have HC := Lib.hid (rew_of HS3.out (insf1 HII.out).1 hp); have HS6 := Lib.hid (And.intro (wr_s1 HX3.out.1 HX3.out.2.1 HX3.out.2.2 (insf1 HII.out).1 hp) (sc_s1 HI3.out.1 HI3.out.2.1 HI3.out.2.2 (insf1 HII.out).1 hp)); clear hp x5 i5))
      obtain ⟨Z4, S4, T4⟩ := HC.out
      have HFIN := Lib.hid (show ReSt w x d (n + 1) w4 from ⟨s, Z4, R1, K1, S4, HSTEP.out, HB3.out.trans (T4.down HS3.out.sh.far HB3.out.size)⟩)
      clear S4 T4 HC HA3 HJ1 HI3 HX3 HS3 x1 xl i1 il iZ
      go_wp2_with fail
      exact ⟨⟨n + 1, by go_num, by omega, HFIN.out⟩, by simp [intOf]; omega⟩
    · obtain rfl : n = nn := by omega
      have hltz : ¬ (n : Int) < (n : Int) := by omega
      have x1 := S3.row.cell (j := 1) (u := .pointer (some ⟨s, 0, none⟩)) rfl
      have xl := S3.row.lt
      have hpt : Calls Tryz.prog 21 #[.pointer (some ⟨s, 0, none⟩)] w3 (PtsF k.T w3) := by
        obtain ⟨Fd, Gd, Fk, Ft, lp, g, t, p, st, su, h, e⟩ := S3.sh
        exact spoints_any h HO.st
      have HPT := Lib.hid hpt
      have HS3 := Lib.hid S3
      have HB3 := Lib.hid hb3
      have HOO := Lib.hid HO
      clear hpt S3 hb3 HO
      go_wp2_with fail
      refine HPT.out.mono ?_
      rintro e w5 ⟨A5, n5, c5, l5, rfl, hp5, hn5, hl5, hb5, hf5, hg5⟩
      obtain ⟨P, hPd⟩ : ∃ P : Nat → Prop, P = fun b => w3.heap.size ≤ b ∧ b < w5.heap.size := ⟨_, rfl⟩
      have S5 := HS3.out.under hb5
      have hPl : ∀ b, P b → b < w5.heap.size := fun b hb => by rw [hPd] at hb; exact hb.2
      have hPZ : Off P Z3 := fun b hb hZ => by
        rw [hPd] at hb
        have := HS3.out.sh.lt _ hZ
        omega
      have hPx : ¬ P x := fun hb => by
        rw [hPd] at hb
        have := HS3.out.row.lt
        omega
      have hPa : ∀ b, w3.heap.size ≤ b → b < w5.heap.size → P b := fun b h1 h2 => by rw [hPd]; exact ⟨h1, h2⟩
      have HP5 := Lib.hid (And.intro hp5 (And.intro hn5 (And.intro hl5 (And.intro hf5 hg5))))
      have HPP := Lib.hid (And.intro hPl (And.intro hPx hPa))
      have hm1 : mvB (1 + m0) = true := decide_eq_true ⟨by omega, by omega⟩
      have hm2 : mvB (1 + m0 + 1) = true := decide_eq_true ⟨by omega, by omega⟩
      have HMV := Lib.hid (And.intro hm1 hm2)
      have hse := wseal S5.sh HOO.out.st (.inl HOO.out.ep) HOO.out.np (by rw [HOO.out.len]; omega) (1 + m0) hm1 (by rw [HOO.out.mv]; omega)
      rw [HOO.out.ep] at hse
      have HSE := Lib.hid hse
      have HM5 := Lib.hid (And.intro S5 (And.intro hPZ (HB3.out.trans (hb5.mono HB3.out.size))))
      have y1 : w5.cell? ⟨x, 1, none⟩ = some (.pointer (some ⟨s, 0, none⟩)) := sx_below x1 xl hb5
      have yl : x < w5.heap.size := Nat.lt_of_lt_of_le xl hb5.size
      have hwr1 : IntKind.i64.wrap (1 + m0) = 1 + m0 := by rw [IntKind.wrap_i64]; omega
      clear hp5 hn5 hl5 hf5 hg5 hPl hPx hPa hPd hPZ S5 hse hb5 HPT HS3 HB3 x1 xl hm1 hm2
      go_wp2_with fail
      refine HSE.out.mono ?_
      rintro e w6 ⟨rfl, Z6, hs6, hT6⟩
      have hk2 : (standK k 3 1 (1 + m0)).st = 3 := rfl
      have hM6 := OnceMid.step HPP.out.1 HM5.out.1 HM5.out.2.1 (Turn.refl _ w5) HM5.out.2.2 hs6 hT6
      have hnp6 : NoPts (R ++ [RK.stand 3 1 (1 + m0)]) := HOO.out.np.snoc (fun m e => by cases e)
      have hlen6 : (R ++ [RK.stand 3 1 (1 + m0)]).length ≤ 60 := by rw [List.length_append, HOO.out.len]; simp; omega
      have hps : Calls Tryz.prog 21 #[.pointer (some ⟨s, 0, none⟩)] w6 fun e w' => e = .returned (.slice none 0 0) ∧ w6 = w' := by
        obtain ⟨Fd, Gd, Fk, Ft, lp, g, t, p, st, su, h, e⟩ := hM6.1.sh
        exact points_sealed h rfl
      have HPS := Lib.hid hps
      have hdm2 : (standK k 3 1 (1 + m0)).dm = 2 := HOO.out.dm
      have HFA := Lib.hid (fails_any hM6.1 hdm2 hnp6 kp kp hkp hkp)
      have x1 := hM6.1.row.cell (j := 1) (u := .pointer (some ⟨s, 0, none⟩)) rfl
      have xl := hM6.1.row.lt
      have HM6 := Lib.hid hM6
      have HNP6 := Lib.hid (And.intro hnp6 (And.intro hlen6 hdm2))
      clear y1 yl hs6 hT6 hM6 hps hnp6 hlen6 hk2 HSE HM5 hdm2
      go_wp2_with fail
      refine HPS.out.mono ?_
      rintro e w6' ⟨rfl, rfl⟩
      go_wp2_with fail
      refine HFA.out.mono ?_
      intro e w7 hpost
      unfold FailsPost at hpost
      obtain ⟨rfl, s7, Z7, S7, T7⟩ := hpost
      have hM7 := OnceMid.fails HPP.out.1 HPP.out.2.1 HM6.out.1 HM6.out.2.1 HM6.out.2.2.1 HM6.out.2.2.2 T7
      have hre1 : Calls Tryz.prog 32 #[.pointer (some ⟨s7, 0, none⟩), .int .i64 (1 + m0), .int .i64 1] w7 fun e w' => e = .returned (.int .i64 101) ∧ w7 = w' := by
        obtain ⟨Fd, Gd, Fk, Ft, lp, g, t, p, st, su, h, e⟩ := S7.sh
        exact reopen_epoch h rfl (1 + m0) 1 HMV.out.1 (by decide) rfl (by show (1 : Int) ≤ 1; omega)
      have hre2 : Calls Tryz.prog 32 #[.pointer (some ⟨s7, 0, none⟩), .int .i64 (1 + m0 + 1), .int .i64 5] w7 fun e w' => e = .returned (.int .i64 100) ∧ w7 = w' := by
        obtain ⟨Fd, Gd, Fk, Ft, lp, g, t, p, st, su, h, e⟩ := S7.sh
        exact reopen_sealed h rfl (1 + m0 + 1) 5 HMV.out.2 (by decide) (by show 1 + m0 < 1 + m0 + 1; omega)
      have HRE1 := Lib.hid hre1
      have HRE2 := Lib.hid hre2
      have HRE3 := Lib.hid (wreopen S7.sh rfl HNP6.out.1 (by have := HNP6.out.2.1; omega) (1 + m0) 5 HMV.out.1 (by decide) rfl (by show (1 : Int) < 5; omega))
      have HM7 := Lib.hid (And.intro S7 hM7)
      clear x1 xl HFA HPS HM6
      have x1 := S7.row.cell (j := 1) (u := .pointer (some ⟨s7, 0, none⟩)) rfl
      have xl := S7.row.lt
      have hwr2 : IntKind.i64.wrap (1 + m0 + 1) = 1 + m0 + 1 := by rw [IntKind.wrap_i64]; omega
      clear S7 T7 hM7 hre1 hre2
      go_wp2_with fail
      refine HRE1.out.mono ?_
      rintro e w7' ⟨rfl, rfl⟩
      go_wp2_with fail
      refine HRE2.out.mono ?_
      rintro e w7' ⟨rfl, rfl⟩
      go_wp2_with fail
      refine HRE3.out.mono ?_
      rintro e w8 ⟨rfl, Z8, hs8, hT8⟩
      have hM8 := OnceMid.step HPP.out.1 HM7.out.1 HM7.out.2.1 HM7.out.2.2.1 HM7.out.2.2.2 hs8 hT8
      have hnp8 : NoPts ((R ++ [RK.stand 3 1 (1 + m0)]) ++ [RK.stand 2 5 (1 + m0)]) := HNP6.out.1.snoc (fun m e => by cases e)
      have hlen8 : ((R ++ [RK.stand 3 1 (1 + m0)]) ++ [RK.stand 2 5 (1 + m0)]).length ≤ 61 := by rw [List.length_append]; have := HNP6.out.2.1; simp at this ⊢; omega
      have hre4 : Calls Tryz.prog 32 #[.pointer (some ⟨s7, 0, none⟩), .int .i64 (1 + m0), .int .i64 5] w8 fun e w' => e = .returned (.int .i64 0) ∧ w8 = w' := by
        obtain ⟨Fd, Gd, Fk, Ft, lp, g, t, p, st, su, h, e⟩ := hM8.1.sh
        exact reopen_again h rfl (1 + m0) 5 HMV.out.1 (by decide) rfl rfl
      have HRE4 := Lib.hid hre4
      have HFA := Lib.hid (fails_any hM8.1 (show (standK (standK k 3 1 (1 + m0)) 2 5 (1 + m0)).dm = 2 from HNP6.out.2.2) hnp8 kp kp hkp hkp)
      clear x1 xl
      have x1 := hM8.1.row.cell (j := 1) (u := .pointer (some ⟨s7, 0, none⟩)) rfl
      have xl := hM8.1.row.lt
      have HM8 := Lib.hid hM8
      have HNP8 := Lib.hid (And.intro hnp8 hlen8)
      clear hs8 hT8 hM8 hnp8 hlen8 hre4 HRE1 HRE2 HRE3 HM7
      go_wp2_with fail
      refine HRE4.out.mono ?_
      rintro e w8' ⟨rfl, rfl⟩
      go_wp2_with fail
      refine HFA.out.mono ?_
      intro e w9 hpost
      unfold FailsPost at hpost
      obtain ⟨rfl, s9, Z9, S9, T9⟩ := hpost
      have hM9 := OnceMid.fails HPP.out.1 HPP.out.2.1 HM8.out.1 HM8.out.2.1 HM8.out.2.2.1 HM8.out.2.2.2 T9
      have hst : Calls Tryz.prog 17 #[.pointer (some ⟨s9, 0, none⟩)] w9 fun e w' => e = .returned (.tuple #[.int .i64 2, .int .i64 5, .int .i64 (n : Int), .int .i64 (1 + m0)]) ∧ ∃ q, w' = w9.drewN q := by
        obtain ⟨Fd, Gd, Fk, Ft, lp, g, t, p, st, su, h, e⟩ := S9.sh
        have := stands_any h
        have e1 : standV (standK (standK k 3 1 (1 + m0)) 2 5 (1 + m0)) = (n : Int) := by
          unfold standV
          rw [if_pos (.inl rfl)]
          exact HOO.out.vr
        rw [e1] at this
        exact this
      have hpt : ∀ q, Calls Tryz.prog 21 #[.pointer (some ⟨s9, 0, none⟩)] (w9.drewN q) (PtsF k.T (w9.drewN q)) := fun q => by
        obtain ⟨Fd, Gd, Fk, Ft, lp, g, t, p, st, su, h, e⟩ := S9.sh.drewN q
        have := spoints_any h (show (standK (standK k 3 1 (1 + m0)) 2 5 (1 + m0)).st = 2 from rfl)
        exact this
      have hso : ∀ w', Below w9.heap.size w9 w' → Calls Tryz.prog 22 #[.pointer (some ⟨s9, 0, none⟩), .int .i64 (1 + m0)] w' fun e w'' => e = .returned (.int .i64 90) ∧ w' = w'' := fun w' hb => by
        obtain ⟨Fd, Gd, Fk, Ft, lp, g, t, p, st, su, h, e⟩ := S9.sh.below hb
        exact seal_old h rfl (1 + m0) HMV.out.1 (Int.le_refl _)
      have HSO := Lib.hid hso
      have HSN := Lib.hid (fun w' (hb : Below w9.heap.size w9 w') => wseal (S9.sh.below hb) rfl (.inr rfl) HNP8.out.1 (by have := HNP8.out.2; omega) (1 + m0 + 1) HMV.out.2 (by show 1 + m0 < 1 + m0 + 1; omega))
      have hp9 := pts_turn HP5.out.1 (Nat.le_refl _) hM9.2.1 ⟨fun a e h => h (HPP.out.2.2 _ (HP5.out.2.2.2.1 a e).1 (HP5.out.2.2.2.1 a e).2), fun q hq a e h => h (HPP.out.2.2 _ (HP5.out.2.2.2.2 q hq a e).1 (HP5.out.2.2.2.2 q hq a e).2)⟩
      have HST := Lib.hid hst
      have HPT := Lib.hid hpt
      have HM9 := Lib.hid (And.intro hp9 (And.intro hM9.2.1.size hM9.2.2))
      clear x1 xl
      have x1 := S9.row.cell (j := 1) (u := .pointer (some ⟨s9, 0, none⟩)) rfl
      have xl := S9.row.lt
      have HS9 := Lib.hid S9
      clear S9 T9 hM9 hst hpt hso hp9 HFA HRE4 HM8
      go_wp2_with fail
      refine HST.out.mono ?_
      rintro e wa ⟨rfl, qa, rfl⟩
      have HPTa := Lib.hid (HPT.out qa)
      go_wp2_with fail
      refine HPTa.out.mono ?_
      rintro e wb ⟨A10, n10, c10, l10, rfl, hp10, hn10, hl10, hb10, _, _⟩
      have hb9 : Below w9.heap.size w9 wb := (below_drewN (Below.refl _ _) qa).trans hb10
      have HSM := Lib.hid (q8same_any A10 A5 n10 n5 c10 c5 _ _ l10 l5 wb hp10 (HM9.out.1.below (hb9.mono HM9.out.2.1)) (Nat.le_refl _) (Nat.le_trans HM9.out.2.1 hb9.size) (by omega) (by rw [hl10, HP5.out.2.2.1]))
      have HB10 := Lib.hid hb9
      clear hp10 hn10 hl10 hb10 hb9 HPTa HPT HST
      have x1' := (HB10.out.cell (p := ⟨x, 1, none⟩) xl).trans x1
      have xl' := Nat.lt_of_lt_of_le xl HB10.out.size
      clear x1 xl
      go_wp2_with fail
      refine HSM.out.mono ?_
      rintro e wd ⟨rfl, qd, rfl⟩
      have hbd : Below w9.heap.size w9 (wb.drewN qd) := below_drewN HB10.out qd
      have HSOd := Lib.hid (HSO.out _ hbd)
      have HSNd := Lib.hid (HSN.out _ hbd)
      have HBd := Lib.hid hbd
      clear hbd HSO HSN
      go_wp2_with fail
      refine HSOd.out.mono ?_
      rintro e we ⟨rfl, rfl⟩
      go_wp2_with fail
      refine HSNd.out.mono ?_
      rintro e wf ⟨rfl, Zf, hsf, hTf⟩
      have hbf : Below w.heap.size w wf := (HM9.out.2.2.trans (HBd.out.mono HM9.out.2.2.size)).trans (hTf.down HS9.out.sh.far (Nat.le_trans HM9.out.2.2.size HBd.out.size))
      have HA := Lib.hid (HAW.out wf hbf)
      have HBF := Lib.hid hbf
      clear hsf hTf hbf x1' xl'
      go_wp2_with fail
      refine HA.out.mono ?_
      rintro e wg ⟨rfl, hbg⟩
      go_wp2_with fail
      go_ret
      exact ⟨rfl, HBF.out.trans hbg⟩
end Go.Proofs.YtegjjhjgfkcbhaaGreatDoor
end
section
namespace Go.Proofs.YtegjjhjgfkcbhaaGreatDoor
open Go Go.ChangeShapes Go.WideShapes Go.ChangeAt Go.RowKit
open Go.ChangeMaps (open_string shut_string)
set_option linter.unusedVariables false

theorem tabs_of_laid {W : World} {a b : DataW Unit} (h : laidMet Tryz.prog [("math/bits.deBruijn32tab", a), ("math/bits.deBruijn64tab", b), ("internal/strconv.uint64pow10", Rows.laid_internal_strconv_uint64pow10), ("plover/crc.left", Rows.laid_plover_crc_left)] W) : TabW W ∧ Tabs W W.heap.size :=
  ⟨tabW_of (Lib.tabIs_of_head (k := .i64) (zs := tabI) (g := 0) (t := 287) (e := 3) (n := 16) (by kernel_rfl) (by kernel_rfl) Tryz.underlying287 Tryz.underlying3 (by kernel_rfl) (by kernel_rfl) h.tail.tail.tail),
   Lib.tabBelow_of_tabIs (Lib.tabIs_of_head (g := 2) (t := 332) (e := 270) (n := 20) (by kernel_rfl) (by kernel_rfl) Tryz.underlying332 Tryz.underlying270 (by kernel_rfl) (by kernel_rfl) h.tail.tail)⟩
theorem own_shardReopens : ownKnob Tryz.prog.godebug = none := by kernel_rfl
theorem laidOut_shardReopens : laidOutB Tryz.prog = true := by kernel_rfl
set_option maxRecDepth 100000 in
theorem lifted_shardReopens (os : Os) (started : os.Started) (H : Type) (enc : TypeId × Value → H) :
    ReturnsInHanded {} Tryz.checked os 8 .any (fun w args => (Rows.shardReopensSpec.pre enc Tryz.prog Tryz.f8 Rows.shardReopensRow.domain false w args ∧ laidMetH Tryz.prog Rows.shardReopensRow.laid w) ∧ sizedMet enc Tryz.prog Tryz.f8 (OpenSpec.ofChange Rows.shardReopensSpec) false w args)
      (Rows.shardReopensSpec.post enc Tryz.prog Tryz.f8 false true false false) := by
  refine returnsInHanded_of_change_and (C := Tryz.checked) (X := fun w _ => laidMetH Tryz.prog Rows.shardReopensRow.laid w) (fun _ _ _ hh h => h.of_heap hh) own_shardReopens started (by kernel_rfl) Tryz.func8
    (ChangeSpec.witness_shaped (enc := enc) (C := Tryz.checked) (os := os) (X := fun w _ => laidMetH Tryz.prog Rows.shardReopensRow.laid w) false (World.laidAll Tryz.prog os Rows.shardReopensRow.laid) #[.slice none 0 0, .int .i64 0, .int .i64 0] 8 (World.laidAll_os _ _ _)
      (World.shaped_of_ZipB (by kernel_rfl) (by kernel_rfl)) (by kernel_rfl) (by kernel_rfl) (by kernel_rfl)
      (by rw [MakeChecks.laidMetH_plain _ _ _ (by kernel_rfl)]; exact laidMet_laidAll _ (by kernel_rfl) (by kernel_rfl))) ?_
  intro W base args ds gs before hval0 hW _ _ hL _
  have hval : ∀ (j : Nat) t v, Tryz.f8.params[j]? = some t → args[j]? = some v → Value.okWide Tryz.prog W .any base t v := hval0
  have hW' := hW
  obtain ⟨p, q, hA0, hV, rfl, hfr, _⟩ := hW
  have hA : DataW.TrodAll enc Tryz.prog W 0 (fun _ => true) true Tryz.f8.params.toList args.toList ds p := hA0
  rw [Tryz.params8] at hA hval
  obtain ⟨v0, vs0, d0, ds0, p0, q0, hargs, rfl, rfl, h0, r0⟩ := trodAll_cons hA
  obtain ⟨v1, vs1, d1, ds1, p1, q1, rfl, rfl, rfl, h1, r1⟩ := trodAll_cons r0
  obtain ⟨v2, vs2, d2, ds2, p2, q2, rfl, rfl, rfl, h2, r2⟩ := trodAll_cons r1
  obtain ⟨rfl, rfl, rfl⟩ := trodAll_nil r2
  obtain rfl : args = #[v0, v1, v2] := by cases args; simp_all
  obtain ⟨rfl, rfl⟩ := trodVars_none hV
  obtain ⟨a0, len0, cap0, rfl⟩ := okWide_slice Tryz.underlying27 (hval 0 27 v0 rfl rfl)
  have k0 := h0
  have lt0 : ∀ x ∈ p0, x.block < W.heap.size := by obtain ⟨m, hm⟩ := k0; exact DataW.trod_lt m _ _ _ hm
  obtain ⟨l0, w0, lm0, z0⟩ := open_lw h0
  obtain ⟨a1, rfl, rfl, rfl, w1⟩ := open_int Tryz.underlying3 (hval 1 3 v1 rfl rfl) h1
  obtain ⟨a2, rfl, rfl, rfl, w2⟩ := open_int Tryz.underlying3 (hval 2 3 v2 rfl rfl) h2
  clear hA0 hval0
  rw [MakeChecks.laidMetH_plain _ _ _ (by kernel_rfl)] at hL
  have hT := tabs_of_laid hL
  refine (shardReopens_walk a0 len0 cap0 l0 a1 a2 W w0 lm0 z0 (i64_of_wf w1) (i64_of_wf w2) ⟨hT.1, hT.1.size, Nat.le_refl _⟩ hT.2).mono fun e W' ⟨he, bel⟩ => ?_
  subst he
  simp only [List.append_nil] at hW'
  exact ⟨_, rfl, _, _, _, [], _, [], hW', trodAll_mk1 (shut_bool Tryz.underlying4 _), (trodAll_cons_mk (Below.trod laidOut_shardReopens (by kernel_rfl) (of_decide_eq_true (by kernel_rfl)) k0 bel lt0) (trodAll_cons_mk (shut_int Tryz.underlying3 w1) (trodAll_cons_mk (shut_int Tryz.underlying3 w2) trodAll_mk0))), rfl, bel.frame _, fun h => by cases h⟩
theorem over_shardReopens : Rows.shardReopensRow.holds Tryz.pinned (OpenSpec.ofChange Rows.shardReopensSpec) :=
  OpenClaim.holds_of_wide 8 Tryz.f8 rfl rfl rfl rfl rfl rfl rfl ⟨rfl, rfl, rfl, rfl, rfl⟩ rfl rfl rfl rfl rfl (by kernel_rfl) Tryz.func8 (by kernel_rfl)
    (of_decide_eq_true (by kernel_rfl)) (by unfold Func.isWrapper; first | (rw [if_pos (by decide +kernel)]; kernel_rfl) | (rw [if_neg (by decide +kernel)]; exact ⟨rfl, rfl⟩))
    (fun os started H enc _ => lifted_shardReopens os started H enc)
theorem shardReopens_card : Rows.ShardReopensCardSaid :=
  Claim7.holds_tied_plain_at .later [] [.data, .data, .data, .data] true (true, "618bdd8cbc1ef53bba7a0e1017d1214eba9873d8def9bd228b2724acb4b5b501") true over_shardReopens (fun _ h => by cases h) (by kernel_rfl) (fun _ h => by cases h) shardReopens_row_tie rfl ⟨rfl, rfl⟩ (by kernel_rfl) rfl
    (fun f fn hf hfn => by
      obtain rfl : f = 8 := Option.some.inj ((show Tryz.prog.funcNamed "plover/ploverlaw10.ShardReopens" = some 8 by kernel_rfl).symm.trans hf) |>.symm
      obtain rfl : fn = Tryz.f8 := (Option.some.inj (Tryz.func8.symm.trans hfn)).symm
      exact ⟨by kernel_rfl, fun j t ht => by
        rw [Tryz.params8] at ht
        have hm : t ∈ [27, 3, 3] := by simpa using Array.mem_of_getElem? ht
        have hall : ([27, 3, 3].all fun u => !Tryz.prog.wantsStandIn u) = true := by kernel_rfl
        exact (show Tryz.prog.wantsStandIn t = false by simpa using List.all_eq_true.1 hall t hm)⟩)
    (by kernel_rfl)
#print axioms shardReopens_card
end Go.Proofs.YtegjjhjgfkcbhaaGreatDoor
end
