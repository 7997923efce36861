/- LogM Settle. Conditions: as each part says. -/
import Derived.Test.YtegjjhjgfkcbhaaGreatDoorQ19
import Derived.Deep.RegionHeld3
set_option linter.unusedVariables false
set_option linter.unusedSimpArgs false
set_option maxRecDepth 100000
set_option maxHeartbeats 16000000
namespace Go.Proofs.YtegjjhjgfkcbhaaGreatDoor
section
open Go Go.RowKit
def lcells (p d t f n : Nat) (vr : Value) (st : Nat) (ve : Value) : List Value :=
 [.pointer (some ⟨p,0,none⟩),.pointer (some ⟨d,0,none⟩),.int .i64 (t : Int),.pointer (some ⟨d,0,none⟩),.int .i64 (f : Int),.int .i64 (n : Int),vr,.int .i64 (st : Int),ve]
structure LgR (w : World) (G : Nat -> Prop) (p d t f n : Nat) (R : List (List UInt8)) (vr : Value) (st : Nat) (A : Option Addr) (m c : Nat) (E : List UInt8) : Prop where
 box : Row w p 159 (lcells p d t f n vr st (.slice A m c))
 rc : OwnL w 0 vr R
 en : Reads w w.heap.size 1 A m (Lib.byteCells E)
 mc : m <= c /\ c <= maxLen
 er : ∀ g,vr.ownBlock = some g -> g ≠ p /\ G g
 ea : ∀ ad,A = some ad -> ad.block ≠ p /\ G ad.block
 an : A = none -> c = 0
 gp : G p
 lt : ∀ b,G b -> b < w.heap.size
structure LgW (w : World) (G : Nat -> Prop) (p d t f n : Nat) (R : List (List UInt8)) (vr : Value) (st : Nat) (A : Option Addr) (m c : Nat) (E : List UInt8) : Prop extends LgR w G p d t f n R vr st A m c E where
 own : w.ownsRow 0 5 1 (.slice A m c) E.length (Lib.byteCells E)
 ev : ∀ g,vr.ownBlock = some g -> (Value.slice A m c).ownBlock ≠ some g
section
variable {w w' : World} {G : Nat -> Prop} {p d t f n : Nat} {R : List (List UInt8)} {vr : Value} {st : Nat} {A : Option Addr} {m c : Nat} {E : List UInt8}
theorem LgR.len (h : LgR w G p d t f n R vr st A m c E) : m = E.length:=by
 have:=h.en.1
 rw [Lib.byteCells_length] at this
 omega
theorem LgR.keep (h : LgR w G p d t f n R vr st A m c E) (hk : ∀ b,G b -> w'.heap[b]? = w.heap[b]?) (hs : w.heap.size <= w'.heap.size) : LgR w' G p d t f n R vr st A m c E :=
 {h with
  box:=h.box.keep (hk p h.gp)
  rc:=own_keep h.rc fun g hg=>hk g (h.er g hg).2
  en:=⟨h.en.1,fun hm=>by
   obtain ⟨ad,e,hb,hc⟩:=h.en.2 hm
   exact ⟨ad,e,by omega,fun j u hu=>(World.cell?_of_block (a:=ad.add j) (by rw [block_of_add];exact hk _ (h.ea ad e).2)).trans (hc j u hu)⟩⟩
  lt:=fun b hb=>by have:=h.lt b hb;omega }
theorem LgW.keep (h : LgW w G p d t f n R vr st A m c E) (hk : ∀ b,G b -> w'.heap[b]? = w.heap[b]?) (hs : w.heap.size <= w'.heap.size) : LgW w' G p d t f n R vr st A m c E :=
 {h.toLgR.keep hk hs with
  own:=own_keep h.own fun g hg=>by
   rcases A with _ | ad
   ·simp [Value.ownBlock] at hg
   ·simp only [Value.ownBlock,Option.some.injEq] at hg
    exact hk g (hg ▸ (h.ea ad rfl).2)
  ev:=h.ev }
theorem LgR.below (h : LgR w G p d t f n R vr st A m c E) (hb : Below w.heap.size w w') : LgR w' G p d t f n R vr st A m c E:=h.keep (fun b hG=>hb.block b (h.lt b hG)) hb.size
theorem LgW.below (h : LgW w G p d t f n R vr st A m c E) (hb : Below w.heap.size w w') : LgW w' G p d t f n R vr st A m c E:=h.keep (fun b hG=>hb.block b (h.lt b hG)) hb.size
theorem LgR.drewN (h : LgR w G p d t f n R vr st A m c E) (q : Nat) : LgR (w.drewN q) G p d t f n R vr st A m c E:=h.keep (fun _ _=>rfl) (Nat.le_refl _)
theorem LgW.drewN (h : LgW w G p d t f n R vr st A m c E) (q : Nat) : LgW (w.drewN q) G p d t f n R vr st A m c E:=h.keep (fun _ _=>rfl) (Nat.le_refl _)
theorem LgR.turn {F F' : Nat -> Prop} (h : LgR w G p d t f n R vr st A m c E) (T : Turn F w F' w') (ha : ∀ b,F b -> ¬ G b) : LgR w' G p d t f n R vr st A m c E:=h.keep (fun b hG=>T.block b (h.lt b hG) (fun hF=>ha b hF hG)) T.size
theorem LgW.turn {F F' : Nat -> Prop} (h : LgW w G p d t f n R vr st A m c E) (T : Turn F w F' w') (ha : ∀ b,F b -> ¬ G b) : LgW w' G p d t f n R vr st A m c E:=h.keep (fun b hG=>T.block b (h.lt b hG) (fun hF=>ha b hF hG)) T.size
theorem LgR.c0 (h : LgR w G p d t f n R vr st A m c E) : w.cell? ⟨p,0,none⟩ = some (.pointer (some ⟨p,0,none⟩)):=h.box.cell rfl
theorem LgR.c1 (h : LgR w G p d t f n R vr st A m c E) : w.cell? ⟨p,1,none⟩ = some (.pointer (some ⟨d,0,none⟩)):=h.box.cell rfl
theorem LgR.c2 (h : LgR w G p d t f n R vr st A m c E) : w.cell? ⟨p,2,none⟩ = some (.int .i64 (t : Int)):=h.box.cell rfl
theorem LgR.c3 (h : LgR w G p d t f n R vr st A m c E) : w.cell? ⟨p,3,none⟩ = some (.pointer (some ⟨d,0,none⟩)):=h.box.cell rfl
theorem LgR.c4 (h : LgR w G p d t f n R vr st A m c E) : w.cell? ⟨p,4,none⟩ = some (.int .i64 (f : Int)):=h.box.cell rfl
theorem LgR.c5 (h : LgR w G p d t f n R vr st A m c E) : w.cell? ⟨p,5,none⟩ = some (.int .i64 (n : Int)):=h.box.cell rfl
theorem LgR.c6 (h : LgR w G p d t f n R vr st A m c E) : w.cell? ⟨p,6,none⟩ = some vr:=h.box.cell rfl
theorem LgR.c7 (h : LgR w G p d t f n R vr st A m c E) : w.cell? ⟨p,7,none⟩ = some (.int .i64 (st : Int)):=h.box.cell rfl
theorem LgR.c8 (h : LgR w G p d t f n R vr st A m c E) : w.cell? ⟨p,8,none⟩ = some (.slice A m c):=h.box.cell rfl
theorem LgR.z (h : LgR w G p d t f n R vr st A m c E) (j : Nat) : w.frozen? ⟨p,j,none⟩ = false:=h.box.frozen j
theorem LgR.pl (h : LgR w G p d t f n R vr st A m c E) : p < w.heap.size:=h.box.lt
theorem log_row : (Tryz.prog.info? 159).map (fun i=>i.size) = some 9:=by kernel_rfl
theorem leql_self (p : Nat) (w : World) : (binOp .eql 72 (.pointer (some ⟨p,0,none⟩)) (.pointer (some ⟨p,0,none⟩))).run Tryz.prog w = .ok (.bool true) w:=by
 obtain ⟨i,hi,_⟩:=Option.map_eq_some_iff.1 log_row
 exact run_eql_ptr_same w _ Tryz.underlying72 hi
theorem lgiven_any (h : LgR w G p d t f n R vr st A m c E) : Calls Tryz.prog 97 #[.pointer (some ⟨p,0,none⟩)] w fun e w'=>e = .returned (.bool true) /\ ∃ q,w' = w.drewN q:=by
 have hc:=h.c0
 have hl:=h.pl
 have he:=leql_self p w
 clear h
 go_enter Tryz.func97,Tryz.ntmps97
 go_wp2
 go_ret
 exact ⟨rfl,0,rfl⟩
theorem room_any (h : LgR w G p d t f n R vr st A m c E) (hn : n <= 16384) (hst : 128 * st + E.length <= 128 * n) : Calls Tryz.prog 137 #[.pointer (some ⟨p,0,none⟩)] w (Gives (.int .i64 ((128 * n - (128 * st + E.length) : Nat) : Int)) w):=by
 have hg:=lgiven_any h
 have hlen:=h.len
 have hbm:=fun W=>hbytes_any W d f n hn
 unfold halfV at hbm
 have HB:=Lib.hid hbm
 have H:=Lib.hid h
 have e : ((128 * n - (128 * st + E.length) : Nat) : Int) = ((128 * n : Nat) : Int) - (st : Int) * 128 - (m : Int):=by omega
 rw [e]
 have h1 : (128 : Int) * (n : Int) <= 2097152:=by omega
 have h2 : (st : Int) * 128 + (m : Int) <= 128 * (n : Int):=by omega
 clear h e hbm hst hlen
 obtain ⟨X,hX⟩ : ∃ X : Int,X = ((128 * n : Nat) : Int):=⟨_,rfl⟩
 rw [<- hX] at HB ⊢
 have hX1 : X <= 2097152:=by omega
 have hX2 : (st : Int) * 128 + (m : Int) <= X:=by omega
 clear hX h1 h2
 go_enter Tryz.func137,Tryz.ntmps137
 go_wp2_with fail
 refine hg.mono ?_
 rintro e w1 ⟨rfl,q,rfl⟩
 have c3:=(H.out.drewN q).c3
 have c4:=(H.out.drewN q).c4
 have c5:=(H.out.drewN q).c5
 have c7:=(H.out.drewN q).c7
 have c8:=(H.out.drewN q).c8
 go_wp2_with fail
 go_region_held3 (fun w'=>w'.cell? ⟨p,3,none⟩ = some (.pointer (some ⟨d,0,none⟩)) /\ w'.cell? ⟨p,4,none⟩ = some (.int .i64 (f : Int)) /\ w'.cell? ⟨p,5,none⟩ = some (.int .i64 (n : Int)) /\ w'.cell? ⟨p,7,none⟩ = some (.int .i64 (st : Int)) /\ w'.cell? ⟨p,8,none⟩ = some (.slice A m c))
  (first | exact ⟨d3,d4,d5,d7,d8⟩ | exact ⟨c3,c4,c5,c7,c8⟩)
  ((go_at_call 154;refine (HB.out _).mono ?_;rintro e w2 ⟨rfl,hb2⟩;have H2:=((H.out.drewN q).drewN 1).below hb2;have d3:=H2.c3;have d4:=H2.c4;have d5:=H2.c5;have d7:=H2.c7;have d8:=H2.c8))
 go_wp2_with fail
 go_ret
 refine ⟨?_,(below_drewN (Below.refl _ w) (q + 1)).trans hb2⟩
 have hw : IntKind.i64.wrap (IntKind.i64.wrap (X - IntKind.i64.wrap ((st : Int) * 128)) - (m : Int)) = X - (st : Int) * 128 - (m : Int):=by simp only [IntKind.wrap_i64];omega
 show Ending.returned (.int .i64 (IntKind.i64.wrap (IntKind.i64.wrap (X - IntKind.i64.wrap ((st : Int) * 128)) - (m : Int)))) = _
 rw [hw]
theorem lall_any (h : LgR w G p d t f n R vr st A m c E) (hR : R.length <= 1000000) : Calls Tryz.prog 56 #[.pointer (some ⟨p,0,none⟩)] w fun e w'=>∃ v,e = .returned v /\ OwnL w' w.heap.size v R /\ Below w.heap.size w w':=by
 have hg:=lgiven_any h
 obtain ⟨A2,c2,hv,hq1,hq2⟩:=own_shape h.rc
 subst hv
 obtain ⟨i0,hi,hz0,hz1,hz2⟩:=info_parts str_row
 have H:=Lib.hid h
 clear h
 go_enter Tryz.func56,Tryz.ntmps56
 go_wp2_with fail
 refine hg.mono ?_
 rintro e w1 ⟨rfl,q,rfl⟩
 have c6:=(H.out.drewN q).c6
 have pl:=(H.out.drewN q).pl
 have hrd:=Lib.hid (Reads.of_own (H.out.drewN q).rc)
 go_wp2_with (at_builtin;refine wpList_append_any _ rfl _ (.tmp 9) 108 rfl w.heap.size 9 i0 _ 1 16 Tryz.underlying108 hi hz0 hz1 hz2 rfl (by decide) (.slice none 0 0) 0 [] rfl (World.ownsRow_nil ..) _ A2 R.length c2 _ rfl hrd.out (strL_one R) (by unfold maxLen;omega) (by omega) (Nat.le_refl _) ?_;intro v' w1 hown hg2 _;rw [Nat.zero_add,List.nil_append] at hown;obtain ⟨A',c',rfl,_,_⟩:=own_shape hown;have hb:=below_of_grown hg2 rfl)
 go_ret
 exact ⟨_,rfl,hown,(below_drewN (Below.refl _ w) q).trans hb⟩
end
end
section
open Go Go.RowKit
theorem bytes_one (l : List UInt8) : ∀ u ∈ Lib.byteCells l,u.oneCell' = true:=by
 intro u hu
 unfold Lib.byteCells at hu
 obtain ⟨x,_,rfl⟩:=List.mem_map.1 hu
 rfl
theorem byteCells_drop (l : List UInt8) (k : Nat) : (Lib.byteCells l).drop k = Lib.byteCells (l.drop k):=by
 unfold Lib.byteCells
 rw [List.map_drop]
section
variable {w w' : World} {G : Nat -> Prop} {p d t f n : Nat} {R : List (List UInt8)} {vr : Value} {st : Nat} {A : Option Addr} {m c : Nat} {E : List UInt8}
theorem LgR.setStart (h : LgR w G p d t f n R vr st A m c E) (s : Nat) : LgR (w.setCell ⟨p,7,none⟩ (.int .i64 (s : Int))) G p d t f n R vr s A m c E:=by
 have hk : ∀ b,b ≠ p -> (w.setCell ⟨p,7,none⟩ (.int .i64 (s : Int))).heap[b]? = w.heap[b]?:=fun b hb=>heap_set_ne w ⟨p,7,none⟩ _ hb
 refine ⟨h.box.set 7 _,own_keep h.rc fun g hg=>hk g (h.er g hg).1,⟨h.en.1,fun hm=>?_⟩,h.mc,h.er,h.ea,h.an,h.gp,fun b hb=>by rw [World.size_setCell];exact h.lt b hb⟩
 obtain ⟨ad,e,hb,hc⟩:=h.en.2 hm
 exact ⟨ad,e,by rw [World.size_setCell];exact hb,fun j u hu=>(World.cell?_of_block (a:=ad.add j) (by rw [block_of_add];exact hk _ (h.ea ad e).1)).trans (hc j u hu)⟩
theorem LgR.putEnd (h : LgR w G p d t f n R vr st A m c E) {A' : Option Addr} {c' : Nat} {E' : List UInt8} (hown : w.ownsRow 0 5 1 (.slice A' E'.length c') E'.length (Lib.byteCells E'))
  (hnew : ∀ g,(Value.slice A' E'.length c').ownBlock = some g -> ¬ G g) :
  LgW (w.setCell ⟨p,8,none⟩ (.slice A' E'.length c')) (fun b=>G b \/ (Value.slice A' E'.length c').ownBlock = some b) p d t f n R vr st A' E'.length c' E':=by
 have hk : ∀ b,b ≠ p -> (w.setCell ⟨p,8,none⟩ (.slice A' E'.length c')).heap[b]? = w.heap[b]?:=fun b hb=>heap_set_ne w ⟨p,8,none⟩ _ hb
 have hn : ∀ g,(Value.slice A' E'.length c').ownBlock = some g -> g ≠ p:=fun g hg e=>hnew g hg (e ▸ h.gp)
 have ho : (w.setCell ⟨p,8,none⟩ (.slice A' E'.length c')).ownsRow 0 5 1 (.slice A' E'.length c') E'.length (Lib.byteCells E'):=own_keep hown fun g hg=>hk g (hn g hg)
 have hq : E'.length <= c' /\ c' <= maxLen:=by
  obtain ⟨_,_,e,h1,h2⟩:=own_shape hown
  injection e with _ _ e
  subst e
  exact ⟨h1,h2⟩
 refine ⟨⟨h.box.set 8 _,own_keep h.rc fun g hg=>hk g (h.er g hg).1,Reads.of_own ho,hq,fun g hg=>⟨(h.er g hg).1,.inl (h.er g hg).2⟩,fun ad e=>?_,fun e=>?_,.inl h.gp,fun b hb=>?_⟩,ho,fun g hg e=>hnew g e (h.er g hg).2⟩
 ·subst e
  exact ⟨hn _ rfl,.inr rfl⟩
 ·subst e
  rcases hown.2 with ⟨e,_⟩ | ⟨g,cap,cur,e,_⟩
  ·injection e
  ·injection e with e _ _
   cases e
 ·rw [World.size_setCell]
  rcases hb with hb | hb
  ·exact h.lt b hb
  ·exact (hown.lt b hb).2
theorem settle_any (h : LgR w G p d t f n R vr st A m c E) (hm : m <= 3000000) (hst : st <= 100000) : Calls Tryz.prog 96 #[.pointer (some ⟨p,0,none⟩)] w fun e w' =>
  e = .returned (.tuple #[]) /\ ∃ G' A' c',LgW w' G' p d t f n R vr (st + m / 128) A' (m - 128 * (m / 128)) c' (E.drop (128 * (m / 128))) /\ Turn G w G' w':=by
 have hlen:=h.len
 obtain ⟨k,hk⟩ : ∃ k,k = m / 128:=⟨_,rfl⟩
 have hkz : (m : Int) / 128 = (k : Int):=by omega
 have hkm : 128 * k <= m:=by omega
 have hmod : m - 128 * k = (E.drop (128 * k)).length:=by rw [List.length_drop];omega
 rw [<- hk,hmod]
 have H1:=h.setStart (st + k)
 have hk8 : ((k : Int) * 128) <= (m : Int):=by omega
 have c7:=h.c7
 have c8:=h.c8
 have z7:=h.z 7
 have pl:=h.pl
 have hmc:=h.mc
 have hT1 : Turn G w G (w.setCell ⟨p,7,none⟩ (.int .i64 ((st + k : Nat) : Int))):=Turn.set G w (a:=⟨p,7,none⟩) h.gp _
 rw [Int.natCast_add] at H1 hT1
 obtain ⟨W1,hW1⟩ : ∃ W1,W1 = w.setCell ⟨p,7,none⟩ (.int .i64 ((st : Int) + (k : Int))):=⟨_,rfl⟩
 rw [<- hW1] at H1 hT1
 have HW:=Lib.hid (And.intro H1 hT1)
 have d8:=H1.c8
 have y8:=H1.z 8
 have pl1:=H1.pl
 have hs1 : W1.heap.size = w.heap.size:=by rw [hW1];simp
 have HLN:=Lib.hid (And.intro hlen hmod)
 obtain ⟨i0,hi,hz0,hz1,hz2⟩:=info_parts byte_row
 have hrd:=H1.en
 have fin : ∀ v' w',w'.ownsRow 0 5 1 v' (E.drop (128 * k)).length (Lib.byteCells (E.drop (128 * k))) -> W1.grownBy w' none -> (v'.ownBlock = none \/ v'.ownBlock = some W1.heap.size) -> ∃ A' c',v' = .slice A' (E.drop (128 * k)).length c' /\ w'.cell? ⟨p,8,none⟩ = some (.slice A m c) /\ w'.frozen? ⟨p,8,none⟩ = false /\ p < w'.heap.size /\
   ∃ G',LgW (w'.setCell ⟨p,8,none⟩ v') G' p d t f n R vr (st + k) A' (E.drop (128 * k)).length c' (E.drop (128 * k)) /\ Turn G w G' (w'.setCell ⟨p,8,none⟩ v'):=by
  intro v' w' hown hg hob
  obtain ⟨A',c',rfl,_,_⟩:=own_shape hown
  have hb:=below_of_grown hg rfl
  have H2:=HW.out.1.below hb
  have hnew : ∀ g,(Value.slice A' (E.drop (128 * k)).length c').ownBlock = some g -> ¬ G g:=fun g hg' hG=>by
   have:=HW.out.1.lt g hG
   rcases hob with e | e
   ·rw [e] at hg';cases hg'
   ·rw [e] at hg';injection hg' with hg';omega
  have H3:=H2.putEnd hown hnew
  refine ⟨A',c',rfl,H2.c8,H2.z 8,H2.pl,_,H3,?_⟩
  have T2 : Turn G w G (w'.setCell ⟨p,8,none⟩ (.slice A' (E.drop (128 * k)).length c')):=(HW.out.2.trans (Turn.below G hb)).trans (Turn.set G w' (a:=⟨p,8,none⟩) H2.gp _)
  refine ⟨T2.os,T2.tape,T2.output,T2.size,T2.block,fun b hb'=>?_⟩
  rcases hb' with hb' | hb'
  ·exact .inl hb'
  ·rcases hob with e | e
   ·rw [e] at hb';cases hb'
   ·rw [e] at hb';injection hb' with hb';exact .inr (by omega)
 have HF:=Lib.hid fin
 clear h H1 hT1 hlen hmod hk fin
 have hc0:=HW.out.1.an
 rcases A with _ | ad0
 ·obtain rfl : c = 0:=hc0 rfl
  obtain rfl : m = 0:=by omega
  obtain rfl : k = 0:=by omega
  have hnil : E.drop (128 * 0) = []:=List.drop_eq_nil_of_le (by have:=HLN.out.1;omega)
  have hl0 : 0 = (E.drop (128 * 0)).length:=by rw [hnil];rfl
  have hz : ∀ (Wx : World) (Ax : Option Addr),Reads Wx 0 1 Ax 0 (Lib.byteCells (E.drop (128 * 0))):=fun Wx Ax=>by rw [hnil];exact Reads.none_
  have HZ:=Lib.hid (And.intro hz hl0)
  rw [show (st : Int) + ((0 : Nat) : Int) = (st : Int) by simp] at hW1
  clear hrd hz hl0 hnil hc0 hkz hkm hk8 hmc
  go_enter Tryz.func96,Tryz.ntmps96
  go_wp2_with (at_builtin;rw [<- hW1];refine wpList_append_any _ rfl _ (.tmp 24) 139 rfl 0 5 i0 _ 1 1 Tryz.underlying139 hi hz0 hz1 hz2 rfl (by decide) (.slice none 0 0) 0 [] rfl (World.ownsRow_nil ..) _ _ 0 _ _ rfl (HZ.out.1 _ _) (bytes_one _) (by unfold maxLen;omega) (by omega) (Nat.zero_le _) ?_;intro v' w1 hown hg2 hob;rw [Nat.zero_add,List.nil_append] at hown;replace hown:=own_n HZ.out.2 hown;obtain ⟨A',c',rfl,hx8,hy8,hpl,G',HL,HT⟩:=HF.out _ _ hown hg2 hob)
  go_end0
  simp only [List.length_drop] at HL HT ⊢
  exact ⟨trivial,G',A',c',HL,HT⟩
 by_cases hck : c = 128 * k
 ·obtain rfl : m = 128 * k:=by omega
  subst hck
  have hnil : E.drop (128 * k) = []:=List.drop_eq_nil_of_le (by have:=HLN.out.1;omega)
  have hz : ∀ (Wx : World) (Ax : Option Addr),Reads Wx 0 1 Ax (128 * k - 128 * k) (Lib.byteCells (E.drop (128 * k))):=fun Wx Ax=>by rw [hnil];exact ⟨by simp [Lib.byteCells] <;> omega,fun h=>by omega⟩
  have hl0 : 128 * k - 128 * k = (E.drop (128 * k)).length:=by rw [hnil];simp <;> omega
  have HZ:=Lib.hid (And.intro hz hl0)
  have hkm2 : (k : Int) * 128 = ((128 * k : Nat) : Int):=by omega
  clear hrd hz hl0 hnil hc0
  go_enter Tryz.func96,Tryz.ntmps96
  go_wp2_with (at_builtin;rw [<- hW1];refine wpList_append_any _ rfl _ (.tmp 24) 139 rfl 0 5 i0 _ 1 1 Tryz.underlying139 hi hz0 hz1 hz2 rfl (by decide) (.slice none 0 0) 0 [] rfl (World.ownsRow_nil ..) _ _ (128 * k - 128 * k) _ _ rfl (HZ.out.1 _ _) (bytes_one _) (by unfold maxLen;omega) (by omega) (Nat.zero_le _) ?_;intro v' w1 hown hg2 hob;rw [Nat.zero_add,List.nil_append] at hown;replace hown:=own_n HZ.out.2 hown;obtain ⟨A',c',rfl,hx8,hy8,hpl,G',HL,HT⟩:=HF.out _ _ hown hg2 hob)
  go_end0
  exact ⟨rfl,G',A',c',by simpa only [List.length_drop] using HL,by simpa only [List.length_drop] using HT⟩
 ·have hrc:=hrd.cut (k:=128 * k) (cap:=c) (by omega) hmc.1
  rw [if_neg hck,Nat.mul_one,byteCells_drop,Option.map_some,show 128 * k = k * 128 by omega] at hrc
  have hl0 : m - k * 128 = (E.drop (128 * k)).length:=by rw [<- HLN.out.2];omega
  have HRC:=Lib.hid (And.intro hrc hl0)
  have hck2 : ¬ c = k * 128:=by omega
  clear hrc hrd hc0 hck hl0
  go_enter Tryz.func96,Tryz.ntmps96
  go_wp2_with (at_builtin;rw [<- hW1];refine wpList_append_any _ rfl _ (.tmp 24) 139 rfl 0 5 i0 _ 1 1 Tryz.underlying139 hi hz0 hz1 hz2 rfl (by decide) (.slice none 0 0) 0 [] rfl (World.ownsRow_nil ..) _ _ (m - k * 128) _ _ rfl HRC.out.1 (bytes_one _) (by unfold maxLen;omega) (by omega) (Nat.zero_le _) ?_;intro v' w1 hown hg2 hob;rw [Nat.zero_add,List.nil_append,HRC.out.2,show k * 128 = 128 * k by omega] at hown;obtain ⟨A',c',rfl,hx8,hy8,hpl,G',HL,HT⟩:=HF.out _ _ hown hg2 hob)
  go_end0
  exact ⟨rfl,G',A',c',by simpa only [List.length_drop] using HL,by simpa only [List.length_drop] using HT⟩
end
end
end Go.Proofs.YtegjjhjgfkcbhaaGreatDoor
