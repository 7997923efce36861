/- SPnt SOnceM SOpn. Conditions: as each part says. -/
import Derived.Test.YtegjjhjgfkcbhaaGreatDoorQ47
import Derived.Test.YtegjjhjgfkcbhaaGreatDoorQ44
import Derived.Test.YtegjjhjgfkcbhaaGreatDoorQ48
import Derived.Test.YtegjjhjgfkcbhaaGreatDoorQ31
import Derived.DataShut
set_option linter.unusedVariables false
set_option linter.unusedSimpArgs false
set_option maxRecDepth 100000
set_option maxHeartbeats 16000000
namespace Go.Proofs.YtegjjhjgfkcbhaaGreatDoor
section
open Go Go.RowKit
section
variable {w w' : World} {B : Nat} {F Fd Gd Fk Ft : Nat -> Prop} {s d lp g t p N tn st dim x : Nat} {su : List ByteArray} {R : List RK} {k : KS} {Z : Nat -> Prop} {qs : List Value}
theorem spoints_any (h : ShR w B Fd Gd Fk Ft s d lp g t p N tn st su R k) (hst : k.st = 2) : Calls Tryz.prog 21 #[.pointer (some ⟨s,0,none⟩)] w (PtsF k.T w):=by
 have s2 : w.cell? ⟨s,2,none⟩ = some (.pointer (some ⟨g,0,none⟩)):=h.b.row.cell rfl
 have hsl:=h.b.row.lt
 have c5:=h.kept.c5
 have hgl:=h.kept.gl
 have HG:=Lib.hid (sgiven_any h)
 have HS:=Lib.hid (sis_any h 2)
 rw [show (k.st == 2) = true by simp [hst]] at HS
 have HT:=Lib.hid (t_ptsF h.kept.tree)
 clear h hst
 go_enter Tryz.func21,Tryz.ntmps21
 go_wp2_with (first | (with_reducible refine HG.out.mono ?_;rintro e w1 ⟨rfl,rfl⟩) | (with_reducible refine HS.out.mono ?_;rintro e w1 ⟨rfl,rfl⟩))
 refine HT.out.mono ?_
 rintro e w2 ⟨A,n,c,l,rfl,hp⟩
 go_wp2_with fail
 go_ret
 exact ⟨A,n,c,l,rfl,hp⟩
theorem mayL_ok : ∀ {R : List RK} {k : KS},MayL k R -> ∀ r ∈ R,r.rc.Ok
 | [],_,_,r,hr=>by cases hr
 | q :: R,k,h,r,hr=>by
  rcases List.mem_cons.1 hr with rfl | hr
  ·exact RK.May.ok h.1
  ·exact mayL_ok h.2 r hr
def NoPts (R : List RK) : Prop:=∀ r ∈ R,∀ m,r ≠ .pts m
theorem recs_all (hm : MayL (ks0 dim) R) (hnp : NoPts R) : RecsOf R:=fun r hr w=>recOf_any r (mayL_ok hm r hr) (hnp r hr) w
def FailsPost (B : Nat) (Z : Nat -> Prop) (x d tn : Nat) (R : List RK) (k : KS) (qs : List Value) (w : World) (e : Ending) (w' : World) : Prop:=e = .returned (.bool true) /\ ∃ s' Z',Side w' B Z' x s' d tn R k qs /\ Turn (fun b=>Z b \/ b = x) w (fun b=>Z' b \/ b = x) w'
theorem eql_sh_nil (p : Nat) (w : World) : (binOp .eql 37 (.pointer (some ⟨p,0,none⟩)) (.pointer none)).run Tryz.prog w = .ok (.bool false) w:=by kernel_rfl
theorem fails_any (hS : Side w B Z x s d tn R k qs) (hdm : k.dm = 2) (hnp : NoPts R) (keep torn : Int) (hk : Be.S64 keep) (ht : Be.S64 torn) : Calls Tryz.prog 13 #[.pointer (some ⟨x,0,none⟩),.int .i64 keep,.int .i64 torn] w (FailsPost B Z x d tn R k qs w):=by
 obtain ⟨⟨Fd,Gd,Fk,Ft,lp,g,t,p,st,su,h,rfl⟩,hrow,hnx,hxB⟩:=hS
 have x0 : w.cell? ⟨x,0,none⟩ = some (.pointer (some ⟨d,0,none⟩)):=hrow.cell rfl
 have xl:=hrow.lt
 have hm:=h.may
 have he:=h.is
 have hg:=h.good
 rw [hdm] at hm he
 have HF:=Lib.hid (logt_fail h.b.log (by simp) keep torn hk.1 hk.2 ht.1 ht.2)
 have HT:=Lib.hid h.b.tab
 have HR:=Lib.hid hrow
 have HM:=Lib.hid (And.intro hm (And.intro he hg))
 have hxF : ¬ Fd x:=fun hF=>hnx (.inl (.inl (.inl hF)))
 have HFd:=Lib.hid (And.intro hxF (And.intro (fun b (hb : Fd b)=>h.b.log.far b (.inl hb)) (And.intro h.b.log.tab.le hxB)))
 clear h hrow hnx hm he hg hxF
 go_enter Tryz.func13,Tryz.ntmps13
 go_wp2_with fail
 refine HF.out.mono ?_
 rintro e w1 ⟨rfl,hD,hT1⟩
 have hb1 : Below B w w1:=hT1.down HFd.out.2.1 HFd.out.2.2.1
 have hr1:=HR.out.keep (hT1.block x xl HFd.out.1)
 have y0 : w1.cell? ⟨x,0,none⟩ = some (.pointer (some ⟨d,0,none⟩)):=hr1.cell rfl
 have yl:=hr1.lt
 have HO:=Lib.hid (sopen_any (dim:=2) hD (by omega) (HT.out.on hb1) (by omega) (by omega) HM.out.1 hnp (recs_all HM.out.1 hnp) (by rw [HM.out.2.1];exact HM.out.2.2))
 have HT1:=Lib.hid (And.intro hT1 (And.intro hb1 hr1))
 clear hD hT1 hb1 hr1 HF x0
 go_wp2_with fail
 refine HO.out.mono ?_
 rintro e w2 ⟨s',Z',rfl,hs2,hT2⟩
 have hxl:=HT1.out.2.2.lt
 have hr2:=HT1.out.2.2.keep (hT2.block x hxl HFd.out.1)
 have hnz : ¬ Z' x:=fun hz=>by
  rcases hT2.foot x hz with h | h
  ·exact HFd.out.1 h
  ·omega
 have z1 : w2.cell? ⟨x,1,none⟩ = some (.pointer (some ⟨s,0,none⟩)):=hr2.cell rfl
 have zf:=hr2.frozen 1
 have zl:=hr2.lt
 have hq:=eql_sh_nil s' w2
 rw [HM.out.2.1] at hs2
 have hB1 : B <= w1.heap.size:=Nat.le_trans HFd.out.2.2.1 HT1.out.2.1.size
 have HB2:=Lib.hid (HT1.out.1.trans hT2)
 have HS2:=Lib.hid (And.intro hs2 (And.intro hr2 hnz))
 clear hs2 hT2 hr2 hnz HO y0 yl hxl
 go_wp2_with fail
 go_ret
 have hTx : Turn (fun b=>b = x) w2 (fun b=>b = x) (w2.setCell ⟨x,1,none⟩ (.pointer (some ⟨s',0,none⟩))):=turn_one x w2 1 _
 refine ⟨rfl,s',Z',⟨HS2.out.1.turn hTx (fun b hb e=>by subst e;exact HS2.out.2.2 hb) (fun b e=>by rw [e];exact HFd.out.2.2.2),HS2.out.2.1.set 1 _,HS2.out.2.2,HFd.out.2.2.2⟩,⟨hTx.os.trans HB2.out.os,hTx.tape.trans HB2.out.tape,hTx.output.trans HB2.out.output,Nat.le_trans HB2.out.size hTx.size,fun b hb hn=>(hTx.block b (Nat.lt_of_lt_of_le hb HB2.out.size) (fun e=>hn (.inr e))).trans (HB2.out.block b hb (fun hF=>hn (.inl (.inl (.inl (.inl hF)))))),fun b hb=>?_⟩⟩
 rcases hb with hb | hb
 ·exact (HB2.out.foot b hb).imp (fun h=>.inl (.inl (.inl (.inl h)))) id
 ·exact .inl (.inr hb)
end
end
section
open Go Go.RowKit
section
variable {q : List Be.E} {c n : Int}
end
theorem may2 {n : Int} (h1 : 1 <= n) (h2 : n <= 1000000) (c : Int) (hc : 0 <= c /\ c < 8) : Be.mayB c n = true:=by
 unfold Be.mayB Be.cliB Be.seqB
 simp
 omega
theorem np_len {r : RK} (h : ∀ m,r ≠ .pts m) : r.rc.ps.length <= 1:=by
 cases r with
 | pts m=>exact absurd rfl (h m)
 | whole | stand | ins | drop=>simp [RK.rc,rec0]
theorem may_encs : ∀ (R : List RK) (k : KS),MayL k R -> NoPts R -> (encs (R.map RK.bytes)).length <= 1123 * R.length
 | [],k,_,_=>by simp [encs]
 | r :: R,k,h,hn=>by
  have h1:=may_encs R (doK k r) h.2 (fun q hq=>hn q (List.mem_cons_of_mem _ hq))
  have h2:=(recT_facts (RK.May.ok h.1)).2.2.2.2
  have h3:=np_len (hn r (List.mem_cons_self ..))
  have h4 : (RK.bytes r).length <= 1109:=by
   show (recB r.rc).length <= 1109
   omega
  rw [List.map_cons,encs_cons,List.length_append,enc_len,List.length_cons]
  omega
theorem ShW.encs1 {w : World} {B : Nat} {Z : Nat -> Prop} {s d N tn : Nat} {R : List RK} {k : KS} (h : ShW w B Z s d N tn R k) (hn : NoPts R) : (encs (R.map RK.bytes)).length <= 1123 * R.length:=by
 obtain ⟨Fd,Gd,Fk,Ft,lp,g,t,p,st,su,h,rfl⟩:=h
 exact may_encs R _ h.may hn
theorem NoPts.snoc {R : List RK} (h : NoPts R) {r : RK} (hr : ∀ m,r ≠ .pts m) : NoPts (R ++ [r]):=fun q hq=>by
 rcases List.mem_append.1 hq with hq | hq
 ·exact h q hq
 ·simp only [List.mem_singleton] at hq
  subst hq
  exact hr
theorem hB_big (tn : Nat) : 1999 <= hB 4000 tn:=by
 unfold hB
 split <;> omega
section
variable {wr w5 : World} {B : Nat} {Z : Nat -> Prop} {s d tn : Nat} {R : List RK} {k : KS}
end
section
variable {wr w5 w6 : World} {B : Nat} {Z : Nat -> Prop} {s d tn x y : Nat} {R R' : List RK} {k k' : KS} {er : Int} {was : Bool} {p : Addr} {v : Value}
end
theorem Side.under {w w' : World} {B : Nat} {Z : Nat -> Prop} {x s d tn : Nat} {R : List RK} {k : KS} {qs : List Value} (h : Side w B Z x s d tn R k qs) (hb : Below w.heap.size w w') : Side w' B Z x s d tn R k qs:=⟨h.sh.below hb,h.row.keep (hb.block _ h.row.lt),h.nx,h.xB⟩
end
section
open Go Go.ChangeShapes Go.WideShapes Go.ChangeAt Go.RowKit
theorem i64_of_wf {n : Int} (h : (Lit.int .i64 n).wf = true) : Be.S64 n:=by
 have:=(Lit.wf_int_iff .i64 n).1 h
 have h1 : IntKind.i64.min = -9223372036854775808:=by decide
 have h2 : IntKind.i64.max = 9223372036854775807:=by decide
 rw [h1,h2] at this
 exact this
end
end Go.Proofs.YtegjjhjgfkcbhaaGreatDoor
