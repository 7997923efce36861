/- SPnt, SOnceM, SOpn in one text. Conditions: as each part says. -/
import Derived.Test.YtegjjhjgfkcbhaaGreatDoorH48
import Derived.Test.YtegjjhjgfkcbhaaGreatDoorH45
import Derived.Test.YtegjjhjgfkcbhaaGreatDoorH49
import Derived.Test.YtegjjhjgfkcbhaaGreatDoorH31
import Derived.DataShut
section
set_option linter.unusedVariables false
set_option linter.unusedSimpArgs false
set_option maxRecDepth 100000
namespace Go.Proofs.YtegjjhjgfkcbhaaGreatDoor
open Go Go.RowKit
section
variable {w w' : World} {B : Nat} {F Fd Gd Fk Ft : Nat → Prop} {s d lp g t p N tn st dim x : Nat} {su : List ByteArray} {R : List RK} {k : KS} {Z : Nat → Prop} {qs : List Value}
set_option maxHeartbeats 2000000 in
theorem spoints_any (h : ShR w B Fd Gd Fk Ft s d lp g t p N tn st su R k) (hst : k.st = 2) : Calls Tryz.prog 21 #[.pointer (some ⟨s, 0, none⟩)] w (PtsF k.T w) := by
  have s2 : w.cell? ⟨s, 2, none⟩ = some (.pointer (some ⟨g, 0, none⟩)) := h.b.row.cell rfl
  have hsl := h.b.row.lt
  have c5 := h.kept.c5
  have hgl := h.kept.gl
  have HG := Lib.hid (sgiven_any h)
  have HS := Lib.hid (sis_any h 2)
  rw [show (k.st == 2) = true by simp [hst]] at HS
  have HT := Lib.hid (t_ptsF h.kept.tree)
  clear h hst
  go_enter Tryz.func21, Tryz.ntmps21
  go_wp2_with (first | (with_reducible refine HG.out.mono ?_; rintro e w1 ⟨rfl, rfl⟩) | (with_reducible refine HS.out.mono ?_; rintro e w1 ⟨rfl, rfl⟩))
  refine HT.out.mono ?_
  rintro e w2 ⟨A, n, c, l, rfl, hp⟩
  go_wp2_with fail
  go_ret
  exact ⟨A, n, c, l, rfl, hp⟩
theorem mayL_ok : ∀ {R : List RK} {k : KS}, MayL k R → ∀ r ∈ R, r.rc.Ok
  | [], _, _, r, hr => by cases hr
  | q :: R, k, h, r, hr => by
    rcases List.mem_cons.1 hr with rfl | hr
    · exact RK.May.ok h.1
    · exact mayL_ok h.2 r hr
def NoPts (R : List RK) : Prop := ∀ r ∈ R, ∀ m, r ≠ .pts m
theorem recs_all (hm : MayL (ks0 dim) R) (hnp : NoPts R) : RecsOf R := fun r hr w => recOf_any r (mayL_ok hm r hr) (hnp r hr) w
def FailsPost (B : Nat) (Z : Nat → Prop) (x d tn : Nat) (R : List RK) (k : KS) (qs : List Value) (w : World) (e : Ending) (w' : World) : Prop := e = .returned (.bool true) ∧ ∃ s' Z', Side w' B Z' x s' d tn R k qs ∧ Turn (fun b => Z b ∨ b = x) w (fun b => Z' b ∨ b = x) w'
theorem eql_sh_nil (p : Nat) (w : World) : (binOp .eql 37 (.pointer (some ⟨p, 0, none⟩)) (.pointer none)).run Tryz.prog w = .ok (.bool false) w := by kernel_rfl
set_option maxHeartbeats 4000000 in
theorem fails_any (hS : Side w B Z x s d tn R k qs) (hdm : k.dm = 2) (hnp : NoPts R) (keep torn : Int) (hk : Be.S64 keep) (ht : Be.S64 torn) : Calls Tryz.prog 13 #[.pointer (some ⟨x, 0, none⟩), .int .i64 keep, .int .i64 torn] w (FailsPost B Z x d tn R k qs w) := by
  obtain ⟨⟨Fd, Gd, Fk, Ft, lp, g, t, p, st, su, h, rfl⟩, hrow, hnx, hxB⟩ := hS
  have x0 : w.cell? ⟨x, 0, none⟩ = some (.pointer (some ⟨d, 0, none⟩)) := hrow.cell rfl
  have xl := hrow.lt
  have hm := h.may
  have he := h.is
  have hg := h.good
  rw [hdm] at hm he
  have HF := Lib.hid (logt_fail h.b.log (by simp) keep torn hk.1 hk.2 ht.1 ht.2)
  have HT := Lib.hid h.b.tab
  have HR := Lib.hid hrow
  have HM := Lib.hid (And.intro hm (And.intro he hg))
  have hxF : ¬ Fd x := fun hF => hnx (.inl (.inl (.inl hF)))
  have HFd := Lib.hid (And.intro hxF (And.intro (fun b (hb : Fd b) => h.b.log.far b (.inl hb)) (And.intro h.b.log.tab.le hxB)))
  clear h hrow hnx hm he hg hxF
  go_enter Tryz.func13, Tryz.ntmps13
  go_wp2_with fail
  refine HF.out.mono ?_
  rintro e w1 ⟨rfl, hD, hT1⟩
  have hb1 : Below B w w1 := hT1.down HFd.out.2.1 HFd.out.2.2.1
  have hr1 := HR.out.keep (hT1.block x xl HFd.out.1)
  have y0 : w1.cell? ⟨x, 0, none⟩ = some (.pointer (some ⟨d, 0, none⟩)) := hr1.cell rfl
  have yl := hr1.lt
  have HO := Lib.hid (sopen_any (dim := 2) hD (by omega) (HT.out.on hb1) (by omega) (by omega) HM.out.1 hnp (recs_all HM.out.1 hnp) (by rw [HM.out.2.1]; exact HM.out.2.2))
  have HT1 := Lib.hid (And.intro hT1 (And.intro hb1 hr1))
  clear hD hT1 hb1 hr1 HF x0
  go_wp2_with fail
  refine HO.out.mono ?_
  rintro e w2 ⟨s', Z', rfl, hs2, hT2⟩
  have hxl := HT1.out.2.2.lt
  have hr2 := HT1.out.2.2.keep (hT2.block x hxl HFd.out.1)
  have hnz : ¬ Z' x := fun hz => by
    rcases hT2.foot x hz with h | h
    · exact HFd.out.1 h
    · omega
  have z1 : w2.cell? ⟨x, 1, none⟩ = some (.pointer (some ⟨s, 0, none⟩)) := hr2.cell rfl
  have zf := hr2.frozen 1
  have zl := hr2.lt
  have hq := eql_sh_nil s' w2
  rw [HM.out.2.1] at hs2
  have hB1 : B ≤ w1.heap.size := Nat.le_trans HFd.out.2.2.1 HT1.out.2.1.size
  have HB2 := Lib.hid (HT1.out.1.trans hT2)
  have HS2 := Lib.hid (And.intro hs2 (And.intro hr2 hnz))
  clear hs2 hT2 hr2 hnz HO y0 yl hxl
  go_wp2_with fail
  go_ret
  have hTx : Turn (fun b => b = x) w2 (fun b => b = x) (w2.setCell ⟨x, 1, none⟩ (.pointer (some ⟨s', 0, none⟩))) := turn_one x w2 1 _
  refine ⟨rfl, s', Z', ⟨HS2.out.1.turn hTx (fun b hb e => by subst e; exact HS2.out.2.2 hb) (fun b e => by rw [e]; exact HFd.out.2.2.2), HS2.out.2.1.set 1 _, HS2.out.2.2, HFd.out.2.2.2⟩, ⟨hTx.os.trans HB2.out.os, hTx.tape.trans HB2.out.tape, hTx.output.trans HB2.out.output, Nat.le_trans HB2.out.size hTx.size, fun b hb hn => (hTx.block b (Nat.lt_of_lt_of_le hb HB2.out.size) (fun e => hn (.inr e))).trans (HB2.out.block b hb (fun hF => hn (.inl (.inl (.inl (.inl hF)))))), fun b hb => ?_⟩⟩
  rcases hb with hb | hb
  · exact (HB2.out.foot b hb).imp (fun h => .inl (.inl (.inl (.inl h)))) id
  · exact .inl (.inr hb)
end
end Go.Proofs.YtegjjhjgfkcbhaaGreatDoor
end
section
set_option linter.unusedVariables false
set_option linter.unusedSimpArgs false
set_option maxRecDepth 100000
namespace Go.Proofs.YtegjjhjgfkcbhaaGreatDoor
open Go Go.RowKit
section
variable {q : List Be.E} {c n : Int}
theorem find_new (hm : Be.mayB c n = true) (h : q[c.toNat]!.s < n) : (Be.findM q c n).2 = 3 := by
  unfold Be.findM
  rw [if_pos hm, if_neg (by omega), if_pos h]
theorem find_old (hm : Be.mayB c n = true) (h : n < q[c.toNat]!.s) : Be.findM q c n = ((0, false), 90) := by
  unfold Be.findM
  rw [if_pos hm, if_pos h]
theorem put_last (hq : Be.Okq q) (hm : Be.mayB c n = true) (h : q[c.toNat]!.s < n) (was : Bool) : ((Be.putM q c n 0 was).1)[c.toNat]!.s = n := by
  have hc := hm
  simp only [Be.mayB, Be.cliB, Bool.and_eq_true, decide_eq_true_eq] at hc
  have hk : c.toNat < q.length := by rw [hq.len]; omega
  unfold Be.putM
  rw [if_pos (show (Be.mayB c n && Be.errB 0) = true by rw [hm]; rfl), if_neg (Int.not_le.2 h)]
  have := Be.set_get q hk ⟨n, 0, was⟩
  show (q.set c.toNat ⟨n, 0, was⟩)[c.toNat]!.s = n
  rw [this]
end
theorem may2 {n : Int} (h1 : 1 ≤ n) (h2 : n ≤ 1000000) (c : Int) (hc : 0 ≤ c ∧ c < 8) : Be.mayB c n = true := by
  unfold Be.mayB Be.cliB Be.seqB
  simp
  omega
theorem np_len {r : RK} (h : ∀ m, r ≠ .pts m) : r.rc.ps.length ≤ 1 := by
  cases r with
  | pts m => exact absurd rfl (h m)
  | whole | stand | ins | drop => simp [RK.rc, rec0]
theorem may_encs : ∀ (R : List RK) (k : KS), MayL k R → NoPts R → (encs (R.map RK.bytes)).length ≤ 1123 * R.length
  | [], k, _, _ => by simp [encs]
  | r :: R, k, h, hn => by
    have h1 := may_encs R (doK k r) h.2 (fun q hq => hn q (List.mem_cons_of_mem _ hq))
    have h2 := (recT_facts (RK.May.ok h.1)).2.2.2.2
    have h3 := np_len (hn r (List.mem_cons_self ..))
    have h4 : (RK.bytes r).length ≤ 1109 := by
      show (recB r.rc).length ≤ 1109
      omega
    rw [List.map_cons, encs_cons, List.length_append, enc_len, List.length_cons]
    omega
theorem ShW.encs1 {w : World} {B : Nat} {Z : Nat → Prop} {s d N tn : Nat} {R : List RK} {k : KS} (h : ShW w B Z s d N tn R k) (hn : NoPts R) : (encs (R.map RK.bytes)).length ≤ 1123 * R.length := by
  obtain ⟨Fd, Gd, Fk, Ft, lp, g, t, p, st, su, h, rfl⟩ := h
  exact may_encs R _ h.may hn
theorem NoPts.snoc {R : List RK} (h : NoPts R) {r : RK} (hr : ∀ m, r ≠ .pts m) : NoPts (R ++ [r]) := fun q hq => by
  rcases List.mem_append.1 hq with hq | hq
  · exact h q hq
  · simp only [List.mem_singleton] at hq
    subst hq
    exact hr
theorem hB_big (tn : Nat) : 1999 ≤ hB 4000 tn := by
  unfold hB
  split <;> omega
section
variable {wr w5 : World} {B : Nat} {Z : Nat → Prop} {s d tn : Nat} {R : List RK} {k : KS}
theorem wcon_put (h : ShW wr B Z s d 4000 tn R k) (hst : k.st = 2) (cl sq x a b : Int) (hm : Be.mayB cl sq = true) (hf : (Be.findM k.q cl sq).2 = 3) (hfew : k.T.length < 512) (hk : ck [a, b] (k.dm : Int) = 0) (h3 : Be.S64 x) (hv1 : k.vr < 1000000000) (hn : NoPts R) (hr : R.length ≤ 100) {A : Addr} (hb : Below wr.heap.size wr w5) (hrd : Reads w5 w5.heap.size 1 (some A) 2 (ints [a, b])) (hA : wr.heap.size ≤ A.block) :
    Calls Tryz.prog 16 #[.pointer (some ⟨s, 0, none⟩), .int .i64 cl, .int .i64 sq, .agg #[.int .i64 1, .int .i64 x, .slice (some A) 2 2, .int .i64 0]] w5 (WrP B Z s d tn (R ++ [RK.ins cl sq (x, [a, b])]) (insK k cl sq (x, [a, b])) 0 (hasT x k.T) 0 w5) := by
  have hlt := h.lt
  have hen := h.encs1 hn
  obtain ⟨Fd, Gd, Fk, Ft, lp, g, t, p, st, su, h, rfl⟩ := h
  have hc64 : Be.S64 cl ∧ Be.S64 sq := by
    simp only [Be.mayB, Be.cliB, Be.seqB, Bool.and_eq_true, decide_eq_true_eq] at hm
    exact ⟨⟨by omega, by omega⟩, ⟨by omega, by omega⟩⟩
  have hmay : (RK.ins cl sq (x, [a, b])).May k := ⟨hc64.1, hc64.2, h3, hk, .inr hfew, h.good.v0, h.good.v1⟩
  have hbl : (RK.bytes (RK.ins cl sq (x, [a, b]))).length ≤ 32768 := recB_len (RK.May.ok hmay)
  have hB := hB_big tn
  refine (write_ins (h.below hb) hst cl sq x 0 (some A) 2 2 [a, b] hm hf hrd (by unfold maxLen; omega) hfew hk (fun ad e hZ => ?_) h3 hv1 (by omega)).mono ?_
  · cases e
    have := hlt _ hZ
    omega
  · rintro e w' ⟨rfl, Z', h1, h2⟩
    exact ⟨rfl, Z', h1, h2⟩
theorem wcon_had (h : ShW wr B Z s d 4000 tn R k) (hst : k.st = 2) (cl sq x : Int) (hm : Be.mayB cl sq = true) (rp : Int × Bool) (er : Int) (hf : Be.findM k.q cl sq = (rp, er)) (h3 : er ≠ 3) (h1 : er ≠ 1) {A : Addr} (hb : Below wr.heap.size wr w5) :
    Calls Tryz.prog 16 #[.pointer (some ⟨s, 0, none⟩), .int .i64 cl, .int .i64 sq, .agg #[.int .i64 1, .int .i64 x, .slice (some A) 2 2, .int .i64 0]] w5 (WrP B Z s d tn R k rp.1 rp.2 er w5) := by
  have h5 := h.below hb
  obtain ⟨Fd, Gd, Fk, Ft, lp, g, t, p, st, su, h, rfl⟩ := h
  refine (write_again (h.below hb) hst cl sq x 0 1 (.inl rfl) (some A) 2 2 hm rp er hf h3 h1).mono ?_
  rintro e w' ⟨rfl, h1⟩
  exact ⟨rfl, _, h5.below h1, Turn.below _ h1⟩
end
/-- So many changes were done, of the client 2. -/
structure OnceI (i : Nat) (R : List RK) (k : KS) : Prop where
  st : k.st = 2
  dm : k.dm = 2
  vr : k.vr = (i : Int)
  np : NoPts R
  len : R.length = i + 1
  few : k.T.length ≤ i
  last : k.q[2]!.s = 2 * (i : Int)
theorem once0 : OnceI 0 aR0 aK0 := ⟨rfl, rfl, rfl, (fun r hr m => by simp at hr; subst hr; exact (fun h => by cases h)), rfl, Nat.le_refl _, by decide +kernel⟩
theorem ckii (i : Nat) (hi : i ≤ 30) : ck [(i : Int), (i : Int)] 2 = 0 := by
  rcases (show i = 0 ∨ i = 1 ∨ i = 2 ∨ i = 3 ∨ i = 4 ∨ i = 5 ∨ i = 6 ∨ i = 7 ∨ i = 8 ∨ i = 9 ∨ i = 10 ∨ i = 11 ∨ i = 12 ∨ i = 13 ∨ i = 14 ∨ i = 15 ∨ i = 16 ∨ i = 17 ∨ i = 18 ∨ i = 19 ∨ i = 20 ∨ i = 21 ∨ i = 22 ∨ i = 23 ∨ i = 24 ∨ i = 25 ∨ i = 26 ∨ i = 27 ∨ i = 28 ∨ i = 29 ∨ i = 30 by omega) with rfl | rfl | rfl | rfl | rfl | rfl | rfl | rfl | rfl | rfl | rfl | rfl | rfl | rfl | rfl | rfl | rfl | rfl | rfl | rfl | rfl | rfl | rfl | rfl | rfl | rfl | rfl | rfl | rfl | rfl | rfl <;> decide +kernel
theorem OnceI.step {i : Nat} {R : List RK} {k : KS} (h : OnceI i R k) (hg : k.Good) (hi : i < 30) (x : Int) (v : List Int) : OnceI (i + 1) (R ++ [RK.ins 2 (2 * (i : Int) + 2) (x, v)]) (insK k 2 (2 * (i : Int) + 2) (x, v)) := by
  have hl := hasT_len (x := x) (v := v) hg.rise
  refine ⟨h.st, h.dm, ?_, h.np.snoc (fun m e => by cases e), by rw [List.length_append, h.len]; rfl, ?_, ?_⟩
  · show k.vr + 1 = _
    rw [h.vr]
    omega
  · show (putT x v k.T).length ≤ i + 1
    have := h.few
    split at hl <;> omega
  · have := put_last (c := 2) (n := 2 * (i : Int) + 2) hg.tab (may2 (by omega) (by omega) 2 (by omega)) (by show k.q[2]!.s < _; rw [h.last]; omega) (hasT x k.T)
    show ((Be.putM k.q 2 (2 * (i : Int) + 2) 0 (hasT x k.T)).1)[2]!.s = _
    refine Eq.trans this ?_
    omega
section
variable {wr w5 w6 : World} {B : Nat} {Z : Nat → Prop} {s d tn x y : Nat} {R R' : List RK} {k k' : KS} {er : Int} {was : Bool} {p : Addr} {v : Value}
theorem sc_s1 (hx : wr.cell? p = some v) (hl : p.block < wr.heap.size) (hZ : ¬ Z p.block) (hb : Below wr.heap.size wr w5) (hp : PostF B Z s d tn R' k' w5 w6) : w6.cell? p = some v := by
  obtain ⟨Z', _, T⟩ := hp
  have h5 := (hb.cell hl).trans hx
  rw [← h5]
  exact World.cell?_of_block (T.block _ (Nat.lt_of_lt_of_le hl hb.size) hZ)
theorem AwB.sc {wc : World} (h : AwB wr B Z s d tn R' k' er was y wc) (hx : wr.cell? p = some v) (hl : p.block < wr.heap.size) (hZ : ¬ Z p.block) : wc.cell? p = some v := by
  obtain ⟨Z', hs, T, hy⟩ := h.ex
  rw [← hx]
  exact World.cell?_of_block (T.block _ hl hZ)
end
/-- Blocks that no shard has. -/
def Off (P Z : Nat → Prop) : Prop := ∀ b, P b → ¬ Z b
theorem Off.turn {P Z Z' : Nat → Prop} {w w' : World} (h : Off P Z) (T : Turn Z w Z' w') (hl : ∀ b, P b → b < w.heap.size) : Off P Z' := fun b hb hZ => by
  rcases T.foot b hZ with h1 | h1
  · exact h b hb h1
  · have := hl b hb
    omega
theorem turn_off {P Z Z' : Nat → Prop} {w w' : World} (h : Off P Z) (T : Turn Z w Z' w') : Turn (fun b => ¬ P b) w (fun b => ¬ P b) w' := ⟨T.os, T.tape, T.output, T.size, fun b hb hn => T.block b hb (h b (Classical.not_not.1 hn)), fun _ h => .inl h⟩
theorem i64_and15 (n : Int) : bits .and .i64 n 15 = n % 16 := by
  have hm : (BitVec.ofInt 64 15).toNat = 2 ^ 4 - 1 := by decide
  have key : (BitVec.ofInt 64 n &&& BitVec.ofInt 64 15).toNat = (n % ((2 ^ 64 : Nat) : Int)).toNat % 2 ^ 4 := by
    rw [BitVec.toNat_and, BitVec.toNat_ofInt, hm, Nat.and_two_pow_sub_one_eq_mod]
  show IntKind.i64.wrap ((BitVec.ofInt 64 n &&& BitVec.ofInt 64 15).toNat : Nat) = n % 16
  rw [key, IntKind.wrap_i64]
  omega
theorem i64_and1' (n : Int) : bits .and .i64 n 1 = n % 2 := by
  have hm : (BitVec.ofInt 64 1).toNat = 2 ^ 1 - 1 := by decide
  have key : (BitVec.ofInt 64 n &&& BitVec.ofInt 64 1).toNat = (n % ((2 ^ 64 : Nat) : Int)).toNat % 2 ^ 1 := by
    rw [BitVec.toNat_and, BitVec.toNat_ofInt, hm, Nat.and_two_pow_sub_one_eq_mod]
  show IntKind.i64.wrap ((BitVec.ofInt 64 n &&& BitVec.ofInt 64 1).toNat : Nat) = n % 2
  rw [key, IntKind.wrap_i64]
  omega
theorem Side.under {w w' : World} {B : Nat} {Z : Nat → Prop} {x s d tn : Nat} {R : List RK} {k : KS} {qs : List Value} (h : Side w B Z x s d tn R k qs) (hb : Below w.heap.size w w') : Side w' B Z x s d tn R k qs := ⟨h.sh.below hb, h.row.keep (hb.block _ h.row.lt), h.nx, h.xB⟩
/-- Behind what may have failed: the shard as it was, and the blocks P untouched since w5. -/
def OnceMid (w5 w0 : World) (x d : Nat) (P : Nat → Prop) (R : List RK) (k : KS) (w6 : World) : Prop := ∃ s Z, Side w6 w0.heap.size Z x s d 1 R k (qNew 2) ∧ Off P Z ∧ Turn (fun b => ¬ P b) w5 (fun b => ¬ P b) w6 ∧ Below w0.heap.size w0 w6
theorem OnceMid.mk' {w0 w5 w6 : World} {x d s s6 : Nat} {Z4 Z6 P : Nat → Prop} {R : List RK} {k : KS} (hPl : ∀ b, P b → b < w5.heap.size) (hPZ : Off P Z4) (hPx : ¬ P x) (S5 : Side w5 w0.heap.size Z4 x s d 1 R k (qNew 2)) (S6 : Side w6 w0.heap.size Z6 x s6 d 1 R k (qNew 2)) (T6 : Turn (fun b => Z4 b ∨ b = x) w5 (fun b => Z6 b ∨ b = x) w6) (hb : Below w0.heap.size w0 w5) : OnceMid w5 w0 x d P R k w6 := by
  have hO : Off P (fun b => Z4 b ∨ b = x) := fun b hp h => h.elim (hPZ b hp) (fun e => hPx (e ▸ hp))
  refine ⟨s6, Z6, S6, fun b hp hz => hO.turn T6 hPl b hp (.inl hz), turn_off hO T6, hb.trans (T6.down (fun b h => h.elim (S5.sh.far b) (fun e => by rw [e]; exact S5.xB)) hb.size)⟩
end Go.Proofs.YtegjjhjgfkcbhaaGreatDoor
end
section
set_option linter.unusedVariables false
set_option linter.unusedSimpArgs false
set_option maxRecDepth 100000
namespace Go.Proofs.YtegjjhjgfkcbhaaGreatDoor
open Go Go.ChangeShapes Go.WideShapes Go.ChangeAt Go.RowKit
theorem i64_of_wf {n : Int} (h : (Lit.int .i64 n).wf = true) : Be.S64 n := by
  have := (Lit.wf_int_iff .i64 n).1 h
  have h1 : IntKind.i64.min = -9223372036854775808 := by decide
  have h2 : IntKind.i64.max = 9223372036854775807 := by decide
  rw [h1, h2] at this
  exact this
theorem open_lw {H : Type} {enc : TypeId × Value → H} {W : World} {spare : Nat → Bool} {a : Option Addr} {len cap : Nat} {d : DataW H} {p : List MemPlace} {hd : Bool}
    (h : DataW.Trod enc Tryz.prog W 0 spare hd 27 (.slice a len cap) d p) : ∃ l, Reads W W.heap.size 1 a len (ints l) ∧ len ≤ maxLen ∧ ∀ z ∈ l, Be.S64 z := by
  obtain ⟨fuel, hf⟩ := h
  rcases open_ints Tryz.underlying27 Tryz.underlying3 (by kernel_rfl) hf with ⟨hcs, _⟩ | ⟨x, l, c, zs, hcs, _, hl, hm, hz, _, hcell, hwz⟩
  · simp [Value.cells] at hcs
    obtain ⟨rfl, rfl, rfl⟩ := hcs
    exact ⟨[], Reads.none_, by decide, fun z hz => by simp at hz⟩
  · simp [Value.cells] at hcs
    obtain ⟨rfl, rfl, rfl⟩ := hcs
    refine ⟨zs.take len, reads_arg ?_ hcell, by omega, fun z hz' => ?_⟩
    · rw [hz]
      split <;> omega
    · exact i64_of_wf (hwz z (List.mem_of_mem_take hz'))
end Go.Proofs.YtegjjhjgfkcbhaaGreatDoor
end
