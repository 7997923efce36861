/- SStd. Conditions: as each part says. -/
import Derived.Test.YtegjjhjgfkcbhaaGreatDoorQ08
set_option linter.unusedVariables false
set_option linter.unusedSimpArgs false
set_option maxRecDepth 100000
set_option maxHeartbeats 16000000
namespace Go.Proofs.YtegjjhjgfkcbhaaGreatDoor
section
open Go Go.RowKit
def doL (k : KS) (rs : List RK) : KS:=rs.foldl doK k
def MayL : KS -> List RK -> Prop
 | _,[]=>True
 | k,r :: rs=>r.May k /\ MayL (doK k r) rs
theorem doL_app (k : KS) (a b : List RK) : doL k (a ++ b) = doL (doL k a) b:=by simp [doL,List.foldl_append]
theorem mayL_app : ∀ (a b : List RK) (k : KS),MayL k (a ++ b) ↔ MayL k a /\ MayL (doL k a) b
 | [],b,k=>by simp [MayL,doL]
 | r :: a,b,k=>by
  simp only [List.cons_append,MayL,mayL_app a b (doK k r),and_assoc]
  rfl
theorem mayL_snoc (k : KS) (a : List RK) (r : RK) (h : MayL k a) (hr : r.May (doL k a)) : MayL k (a ++ [r]):=(mayL_app a [r] k).2 ⟨h,hr,trivial⟩
structure KS.Good (k : KS) : Prop where
 d1 : 1 <= k.dm
 d2 : k.dm <= 16
 st : Be.S64 k.st
 ep : Be.S64 k.ep
 mv : Be.S64 k.mv
 v0 : 0 <= k.vr
 v1 : k.vr <= 1000000000
 rise : Rise k.T
 few : k.T.length <= 512
 pts : ∀ p ∈ k.T,Be.S64 p.1 /\ ck p.2 k.dm = 0
 tab : Be.Okq k.q
theorem ks0_good (dim : Nat) (h1 : 1 <= dim) (h2 : dim <= 16) : (ks0 dim).Good:=⟨h1,h2,s64_0,s64_0,s64_0,by simp [ks0],by simp [ks0],List.Pairwise.nil,by simp [ks0],by simp [ks0],Be.okq0⟩
def wholeK (k : KS) (st ep mv : Int) : RK:=.whole st ep mv k.vr k.dm k.q
theorem hasT_len {x : Int} {v : List Int} {T : List Pnt} (hr : Rise T) : (putT x v T).length + (if hasT x T = true then 1 else 0) = T.length + 1:=by
 have hp:=(putT_perm x v T).length_eq
 rw [hp,List.length_cons]
 have : (delT x T).length + (if hasT x T = true then 1 else 0) = T.length:=by
  clear hp
  induction T with
  | nil=>rfl
  | cons p r ih =>
   obtain ⟨h1,h2⟩:=List.pairwise_cons.1 hr
   have ih:=ih h2
   unfold delT hasT at ih ⊢
   by_cases e : p.1 = x
   ·have hn : r.filter (fun y=>decide (y.1 ≠ x)) = r:=List.filter_eq_self.2 fun y hy=>by
     have:=h1 y hy
     simp
     omega
    rw [List.filter_cons_of_neg (by simp [e]),hn]
    simp [e]
   ·rw [List.filter_cons_of_pos (by simp [e])]
    simp only [List.any_cons,e,decide_false,Bool.false_or,List.length_cons]
    omega
 omega
theorem doK_dm (k : KS) : ∀ r : RK,(doK k r).dm = k.dm
 | .whole ..=>rfl
 | .pts _=>rfl
 | .stand ..=>rfl
 | .ins ..=>rfl
 | .drop ..=>rfl
theorem doL_dm : ∀ (rs : List RK) (k : KS),(doL k rs).dm = k.dm
 | [],_=>rfl
 | r :: rs,k=>by
  show (doL (doK k r) rs).dm = k.dm
  rw [doL_dm rs,doK_dm]
theorem putT_mem {x : Int} {v : List Int} {T : List Pnt} {p : Pnt} (h : p ∈ putT x v T) : p = (x,v) \/ p ∈ T:=by
 have:=(putT_perm x v T).mem_iff.1 h
 rcases List.mem_cons.1 this with h1 | h1
 ·exact .inl h1
 ·exact .inr (List.mem_filter.1 h1).1
theorem KS.Good.ins {k : KS} (h : k.Good) {cl sq : Int} {p : Pnt} (h3 : Be.S64 p.1) (h4 : ck p.2 k.dm = 0) (h5 : hasT p.1 k.T = true \/ k.T.length < 512) (hv : k.vr < 1000000000) : (insK k cl sq p).Good:=by
 have hl:=hasT_len (x:=p.1) (v:=p.2) h.rise
 have h0:=h.v0
 refine ⟨h.d1,h.d2,h.st,h.ep,h.mv,by show (0 : Int) <= k.vr + 1;omega,by show k.vr + 1 <= 1000000000;omega,h.rise.put p.1 p.2,?_,fun y hy=>?_,Be.putM_ok h.tab _ _ _ _⟩
 ·show (putT p.1 p.2 k.T).length <= 512
  have:=h.few
  rcases h5 with h5 | h5
  ·rw [if_pos h5] at hl
   omega
  ·split at hl <;> omega
 ·rcases putT_mem hy with e | e
  ·subst e
   exact ⟨h3,h4⟩
  ·exact h.pts y e
theorem KS.Good.drop {k : KS} (h : k.Good) {cl sq x : Int} (hv : k.vr < 1000000000) : (dropK k cl sq x).Good:=by
 have h0:=h.v0
 refine ⟨h.d1,h.d2,h.st,h.ep,h.mv,by show (0 : Int) <= k.vr + 1;omega,by show k.vr + 1 <= 1000000000;omega,h.rise.del x,?_,fun y hy=>h.pts y (List.mem_filter.1 hy).1,Be.putM_ok h.tab _ _ _ _⟩
 have:=h.few
 have h2 : (delT x k.T).length <= k.T.length:=List.length_filter_le _ _
 show (delT x k.T).length <= 512
 omega
theorem KS.Good.stand {k : KS} (h : k.Good) {st ep mv : Int} (h1 : Be.S64 st) (h2 : Be.S64 ep) (h3 : Be.S64 mv) : (standK k st ep mv).Good:=⟨h.d1,h.d2,h1,h2,h3,h.v0,h.v1,h.rise,h.few,h.pts,h.tab⟩
end
end Go.Proofs.YtegjjhjgfkcbhaaGreatDoor
