/- BenN Heads. Conditions: as each part says. -/
import Derived.Test.YtegjjhjgfkcbhaaGreatDoorQ36
import Derived.Test.YtegjjhjgfkcbhaaGreatDoorQ34
set_option linter.unusedVariables false
set_option linter.unusedSimpArgs false
set_option maxRecDepth 100000
set_option maxHeartbeats 16000000
namespace Go.Proofs.YtegjjhjgfkcbhaaGreatDoor
section
open Go Go.RowKit
def numB (n : Nat) : List UInt8:=105 :: (Lib.decDigits n ++ [101])
def numS (n : Nat) : ByteArray:=⟨(numB n).toArray⟩
theorem numS_size (n : Nat) : (numS n).size = (Lib.decDigits n).length + 2:=by
 show (numB n).length = _
 simp [numB]
theorem numS_small (n : Nat) (hn : n <= 9223372036854775807) : (numS n).size <= 22:=by
 have:=itoa_len (n : Int) (by omega) (by omega)
 rw [itoa_nat] at this
 rw [numS_size]
 omega
def vNum (n : Nat) : Value:=.agg #[.int .i64 1,.int .i64 (n : Int),.string ⟨#[]⟩,.slice none 0 0]
theorem as_int_err (x : Value) (w : World) : (Instr.typeAssert (.iface 3 x) 20 35 true).run Tryz.prog w = .ok (.tuple #[.int .i64 0,.bool false]) w:=by kernel_rfl
theorem as_int_int (x : Value) (w : World) : (Instr.typeAssert (.iface 3 x) 20 3 true).run Tryz.prog w = .ok (.tuple #[x,.bool true]) w:=by kernel_rfl
theorem val_block {w : World} {b : Nat} {c0 c1 c2 c3 : Value} (h : w.heap[b]? = some (.cells #[c0,c1,c2,c3] 202 (0,0))) : w.cell? ⟨b,0,none⟩ = some c0 /\ w.cell? ⟨b,1,none⟩ = some c1 /\ w.cell? ⟨b,2,none⟩ = some c2 /\ w.cell? ⟨b,3,none⟩ = some c3 /\ (∀ o,w.frozen? ⟨b,o,none⟩ = false):=by
 simp [World.cell?,World.frozen?,h]
theorem below_four {w w1 : World} {b : Nat} (h : Below w.heap.size w w1) (hb : w.heap.size <= b) (v0 v1 v2 v3 : Value) : Below w.heap.size w ((((w1.setCell ⟨b,0,none⟩ v0).setCell ⟨b,1,none⟩ v1).setCell ⟨b,2,none⟩ v2).setCell ⟨b,3,none⟩ v3) :=
 (((h.setCell hb _).setCell hb _).setCell hb _).setCell hb _
theorem bcell {w w1 : World} {o : Obj} (hb : Below (w.alloc o).heap.size (w.alloc o) w1) : w1.heap[w.heap.size]? = some o:=(hb.block w.heap.size (by simp)).trans (by show (w.heap.push o)[w.heap.size]? = _;simp)
theorem bint_any (n : Int) (w : World) : Calls Tryz.prog 130 #[.int .i64 n] w fun e w'=>e = .returned (.agg #[.int .i64 1,.int .i64 n,.string ⟨#[]⟩,.slice none 0 0]) /\ Below w.heap.size w w':=by
 go_enter Tryz.func130,Tryz.ntmps130
 go_wp2
 refine bodyPost_ret (v:=.agg #[.int .i64 1,.int .i64 n,.string ⟨#[]⟩,.slice none 0 0]) (by simp [results,Tryz.results130,go_sem]) rfl ⟨rfl,?_⟩
 exact (Below.refl _ _).alloc (Nat.le_refl _) _
theorem below_new {w w1 : World} {o : Obj} (hb : Below (w.alloc o).heap.size (w.alloc o) w1) : Below w.heap.size w w1:=((Below.refl _ _).alloc (Nat.le_refl _) _).trans (hb.mono (by simp))
theorem valueOf_num (n : Int) (w : World) : Calls Tryz.prog 209 #[.iface 3 (.int .i64 n)] w fun e w'=>e = .returned (.agg #[.int .i64 1,.int .i64 n,.string ⟨#[]⟩,.slice none 0 0]) /\ Below w.heap.size w w':=by
 have as0:=as_int_int (.int .i64 n)
 go_enter Tryz.func209,Tryz.ntmps209
 go_wp2_with fail
 refine (bint_any n _).mono ?_
 rintro e w1 ⟨rfl,hb⟩
 obtain ⟨e0,e1,e2,e3,ef⟩:=val_block (bcell hb)
 have hz : w.heap.size < w1.heap.size:=by have:=hb.size;simp at this;omega
 go_wp2_with fail
 refine bodyPost_ret (v:=.agg #[.int .i64 1,.int .i64 n,.string ⟨#[]⟩,.slice none 0 0]) (by simp [results,Tryz.results209,go_sem,e0,e1,e2,e3,hz]) rfl ⟨rfl,?_⟩
 exact below_four (below_new hb) (Nat.le_refl _) _ _ _ _
theorem rnumber_num (R n : Nat) (hn : n <= 1000000000) (d : Nat) (w : World) (h : IsRd w R (numS n) 0 d) : Calls Tryz.prog 225 #[.pointer (some ⟨R,0,none⟩)] w fun e w' =>
  e = .returned (.iface 3 (.int .i64 (n : Int))) /\ IsRd w' R (numS n) (numS n).size d /\ w.grownBy w' (some R):=by
 have c1:=h.c1
 have f1:=h.f 1
 have hI2 : IsRd (w.setCell ⟨R,1,none⟩ (.int .i64 (((0 : Nat) : Int) + 1))) R (numS n) 1 d:=h.set1 1
 have hg2 : w.grownBy (w.setCell ⟨R,1,none⟩ (.int .i64 (((0 : Nat) : Int) + 1))) (some R):=grown_setCell (World.grownBy.refl w _) _ rfl _
 rw [show ((0 : Nat) : Int) + 1 = 1 by rfl] at hI2 hg2
 have hs:=numS_small n (by omega)
 have hd1 : (numS n).data.toList.drop 1 = Lib.decDigits n ++ [101]:=rfl
 have HB : Hid (false = (((numS n).data.toList.drop 1).head? == some 45)):=Lib.hid (by
  rw [hd1]
  obtain ⟨c,r,e,hc,_⟩:=dec_head n
  rw [e,List.cons_append,List.head?_cons,eq_comm,Bool.eq_false_iff]
  intro hx
  simp only [beq_iff_eq,Option.some.injEq] at hx
  subst hx
  exact absurd hc (by decide))
 have HX : Hid (dg 9223372036854775807 101 20 true 0 ((numS n).data.toList.drop 1) = .ok (n,(Lib.decDigits n).length + 1)):=Lib.hid (by
  rw [hd1]
  exact dg_put _ _ _ (by decide) n (by omega) [])
 have HZ:=Lib.hid (numS_size n)
 have HI:=Lib.hid (And.intro hI2 hg2)
 have hnz : (n : Int) <= 1000000000:=by omega
 clear hd1 hI2 hg2 h hn
 generalize numS n = s at *
 go_enter Tryz.func225,Tryz.ntmps225
 go_wp2_with fail
 refine (is_z R s 1 d 45 _ rfl false _ HI.out.1 (by omega) HB.out).mono ?_
 rintro e w1 ⟨rfl,q1,rfl⟩
 go_wp2_with fail
 refine (digits_ok R s 1 d 9223372036854775807 _ rfl 101 _ rfl 20 _ (HI.out.1.drewN _) (by omega) (by decide) (by decide) (by decide) _ _ HX.out).mono ?_
 rintro e w3 ⟨rfl,hI4,hg4⟩
 go_wp2_with fail
 go_ret
 refine ⟨rfl,?_,grown_then (grown_drewN HI.out.2 _) hg4⟩
 rw [HZ.out,show (Lib.decDigits n).length + 2 = 1 + ((Lib.decDigits n).length + 1) by omega]
 exact hI4
theorem rvalue_num (R n : Nat) (hn : n <= 1000000000) (d : Nat) (w : World) (h : IsRd w R (numS n) 0 d) : Calls Tryz.prog 208 #[.pointer (some ⟨R,0,none⟩)] w fun e w' =>
  e = .returned (.iface 3 (.int .i64 (n : Int))) /\ IsRd w' R (numS n) (numS n).size d /\ w.grownBy w' (some R):=by
 have hs:=numS_small n (by omega)
 have hmo:=more_yes R (numS n) 0 d w h (by rw [numS_size];omega)
 have his:=fun q=>is_z R (numS n) 0 d 105 105 rfl true (w.drewN q) (h.drewN q) (by omega) rfl
 have hnum:=fun q=>rnumber_num R n hn d (w.drewN q) (h.drewN q)
 have HM:=Lib.hid hmo
 have HI:=Lib.hid his
 have HN:=Lib.hid hnum
 clear h hmo his hnum hs
 go_enter Tryz.func208,Tryz.ntmps208
 go_wp2_with fail
 refine HM.out.mono ?_
 rintro e w1 ⟨rfl,q1,rfl⟩
 go_wp2_with fail
 refine (HI.out q1).mono ?_
 rintro e w2 ⟨rfl,q2,rfl⟩
 go_wp2_with fail
 refine (HN.out (q1 + q2)).mono ?_
 rintro e w3 ⟨rfl,hI,hg⟩
 go_wp2_with fail
 go_ret
 exact ⟨rfl,hI,grown_then (grown_drewN (World.grownBy.refl w _) _) hg⟩
theorem take_start (s : ByteArray) (w : World) : ((w.alloc (.cells #[.int .i64 0,.int .i64 0,.string ⟨#[]⟩,.slice none 0 0] 202)).alloc (.cells #[.string s,.int .i64 0,.int .i64 0] 282)).heap[w.heap.size]? = some (.cells #[.int .i64 0,.int .i64 0,.string ⟨#[]⟩,.slice none 0 0] 202 (0,0)) /\
  IsRd ((w.alloc (.cells #[.int .i64 0,.int .i64 0,.string ⟨#[]⟩,.slice none 0 0] 202)).alloc (.cells #[.string s,.int .i64 0,.int .i64 0] 282)) (w.heap.size + 1) s 0 0 /\
  Below w.heap.size w ((w.alloc (.cells #[.int .i64 0,.int .i64 0,.string ⟨#[]⟩,.slice none 0 0] 202)).alloc (.cells #[.string s,.int .i64 0,.int .i64 0] 282)) /\
  ((w.alloc (.cells #[.int .i64 0,.int .i64 0,.string ⟨#[]⟩,.slice none 0 0] 202)).alloc (.cells #[.string s,.int .i64 0,.int .i64 0] 282)).heap.size = w.heap.size + 2:=by
 refine ⟨?_,?_,((Below.refl _ _).alloc (Nat.le_refl _) _).alloc (by simp) _,by simp⟩
 ·rw [Below.heap_alloc _ _ _ (by simp)]
  exact heap_alloc_new w _
 ·have:=heap_alloc_new (w.alloc (.cells #[.int .i64 0,.int .i64 0,.string ⟨#[]⟩,.slice none 0 0] 202)) (.cells #[.string s,.int .i64 0,.int .i64 0] 282)
  simpa [IsRd] using this
theorem below_grown_new {w w1 w' : World} {R : Nat} (h : Below w.heap.size w w1) (hg : w1.grownBy w' (some R)) (hR : w.heap.size <= R) : Below w.heap.size w w':=h.grown hg h.size (fun k hk=>by injection hk;omega)
theorem take_num (n : Nat) (hn : n <= 1000000000) (w : World) : Calls Tryz.prog 180 #[.string (numS n)] w fun e w'=>e = .returned (.tuple #[vNum n,.int .i64 ((numS n).size : Int),.int .i64 0]) /\ Below w.heap.size w w':=by
 obtain ⟨hblk,hI,hb0,hsz⟩:=take_start (numS n) w
 have hs:=numS_small n (by omega)
 have hrv:=fun w1 h=>rvalue_num (w.heap.size + 1) n hn 0 w1 h
 have HRV:=Lib.hid hrv
 clear hrv hn
 unfold vNum
 generalize numS n = s at *
 go_enter Tryz.func180,Tryz.ntmps180
 go_wp2_with fail
 generalize (w.alloc (.cells #[.int .i64 0,.int .i64 0,.string ⟨#[]⟩,.slice none 0 0] 202)).alloc (.cells #[.string s,.int .i64 0,.int .i64 0] 282) = w1 at hblk hI hb0 hsz
 have HB:=Lib.hid hblk
 have HS:=Lib.hid hsz
 clear hblk hsz
 refine (HRV.out _ hI).mono ?_
 rintro e w3 ⟨rfl,hI3,hg4⟩
 have as0:=as_int_err (.int .i64 (n : Int)) w3
 have hblk3:=(hg4.block w.heap.size (by have:=HS.out;omega) (by simp)).trans HB.out
 have hb3:=below_grown_new hb0 hg4 (by omega)
 have hz3 : w.heap.size + 1 < w3.heap.size:=by have:=hg4.size;have:=HS.out;omega
 have c1:=hI3.c1
 have hnz : ¬ (65536 : Int) < (s.size : Int):=by omega
 have HB3:=Lib.hid hblk3
 clear hblk3
 go_wp2_with fail
 go_region_held3 (fun w'=>w'.cell? ⟨w.heap.size + 1,1,none⟩ = some (.int .i64 (s.size : Int)))
  (first | go_keep | (rw [hb4.cell (by simp;omega)];assumption))
  ((go_at_call 209;refine (valueOf_num (n : Int) _).mono ?_;rintro e w4 ⟨rfl,hb4⟩;obtain ⟨e0,e1,e2,e3,ef⟩:=val_block ((hb4.block w.heap.size (by simp;omega)).trans HB3.out);have hz4 : w.heap.size + 1 < w4.heap.size:=(by have:=hb4.size;simp at this;omega)))
 go_wp2_with fail
 have hb4' : Below w3.heap.size w3 w4:=(Below.refl w3.heap.size w3).drew.trans hb4
 have hb04 : Below w.heap.size w w4:=hb3.trans (hb4'.mono (by omega))
 refine bodyPost_ret (v:=.tuple #[.agg #[.int .i64 1,.int .i64 (n : Int),.string ⟨#[]⟩,.slice none 0 0],.int .i64 (s.size : Int),.int .i64 0]) (by simp [results,Tryz.results180,go_sem,e0,e1,e2,e3,hz4,show w.heap.size < w4.heap.size by omega]) rfl ⟨rfl,?_⟩
 exact below_four hb04 (Nat.le_refl _) _ _ _ _
theorem only_num (n : Nat) (hn : n <= 1000000000) (w : World) : Calls Tryz.prog 145 #[.string (numS n)] w fun e w'=>e = .returned (.tuple #[vNum n,.int .i64 0]) /\ Below w.heap.size w w':=by
 have htk:=fun w=>take_num n hn w
 unfold vNum at htk
 have HT:=Lib.hid htk
 clear htk hn
 unfold vNum
 generalize numS n = s at *
 go_enter Tryz.func145,Tryz.ntmps145
 go_wp2_with fail
 refine (HT.out _).mono ?_
 rintro e w1 ⟨rfl,hb⟩
 have hblk:=bcell hb
 obtain ⟨e0,e1,e2,e3,ef⟩:=val_block hblk
 have hz : w.heap.size < w1.heap.size:=by have:=hb.size;simp at this;omega
 have hbn:=below_new hb
 go_wp2_with fail
 refine bodyPost_ret (v:=.tuple #[.agg #[.int .i64 1,.int .i64 (n : Int),.string ⟨#[]⟩,.slice none 0 0],.int .i64 0]) (by simp [results,Tryz.results145,go_sem,e0,e1,e2,e3,hz]) rfl ⟨rfl,?_⟩
 have:=below_four hbn (Nat.le_refl _) (.int .i64 1) (.int .i64 (n : Int)) (.string ⟨#[]⟩) (.slice none 0 0)
 exact this.alloc this.size _
theorem put_start (w : World) (c0 c1 c2 c3 : Value) : WrAt ((w.alloc (.cells #[c0,c1,c2,c3] 202)).alloc (.cells #[.slice none 0 0] 250)) (w.heap.size + 1) (w.heap.size + 2) (.slice none 0 0) [] /\ Below w.heap.size w ((w.alloc (.cells #[c0,c1,c2,c3] 202)).alloc (.cells #[.slice none 0 0] 250)) /\
  ((w.alloc (.cells #[c0,c1,c2,c3] 202)).alloc (.cells #[.slice none 0 0] 250)).heap[w.heap.size]? = some (.cells #[c0,c1,c2,c3] 202 (0,0)):=by
 refine ⟨⟨?_,World.ownsRow_nil ..,by omega,by simp⟩,((Below.refl _ _).alloc (Nat.le_refl _) _).alloc (by simp) _,?_⟩
 ·have:=heap_alloc_new (w.alloc (.cells #[c0,c1,c2,c3] 202)) (.cells #[.slice none 0 0] 250)
  simpa using this
 ·rw [Below.heap_alloc _ _ _ (by simp)]
  exact heap_alloc_new w _
theorem wvalue_num (Wb B n : Nat) (hn : n <= 1000000000) (w : World) (u : Value) (h : WrAt w Wb B u []) (hT : Tabs w Wb) : Calls Tryz.prog 169 #[.pointer (some ⟨Wb,0,none⟩),vNum n,.int .i64 0] w fun e w'=>e = .returned (.bool true) /\ (∃ u',WrAt w' Wb B u' (numB n)) /\ Below Wb w w':=by
 have hlt:=h.lt
 have hle:=h.le
 have hb0 : Below w.heap.size w (w.alloc (.cells #[.int .i64 1,.int .i64 (n : Int),.string ⟨#[]⟩,.slice none 0 0] 202)):=(Below.refl _ _).alloc (Nat.le_refl _) _
 have hb0' : Below Wb w (w.alloc (.cells #[.int .i64 1,.int .i64 (n : Int),.string ⟨#[]⟩,.slice none 0 0] 202)):=hb0.mono (by omega)
 have hw0:=h.below hb0
 have hT0:=hT.on hb0'
 have hsm:=numS_small n (by omega)
 have hlen : (numB n).length = (numS n).size:=rfl
 have he : [] ++ 105 :: (Lib.itoa (n : Int) ++ [101]) = numB n:=by rw [itoa_nat];rfl
 have HN:=Lib.hid (wnumber_any Wb B u [] (n : Int) (by omega) (by omega) (by simp) _ hw0 hT0)
 have HE:=Lib.hid he
 have HD:=Lib.hid (show decide ((numB n).length <= 65536) = true from decide_eq_true (by omega))
 clear he hlen hsm hn hb0
 unfold vNum
 go_enter Tryz.func169,Tryz.ntmps169
 go_wp2_with fail
 refine HN.out.mono ?_
 rw [HE.out]
 rintro e w1 ⟨rfl,⟨u1,hw1⟩,hb1⟩
 go_wp2_with fail
 refine (fits_any Wb B u1 _ _ hw1).mono ?_
 rw [HD.out]
 rintro e w2 ⟨rfl,rfl⟩
 go_wp2_with fail
 go_ret
 exact ⟨rfl,⟨_,hw1⟩,hb0'.trans hb1⟩
theorem bput_num (n : Nat) (hn : n <= 1000000000) (w : World) (hT : Tabs w w.heap.size) : Calls Tryz.prog 134 #[vNum n] w fun e w'=>e = .returned (.tuple #[.string (numS n),.int .i64 0]) /\ Below w.heap.size w w':=by
 obtain ⟨hw0,hb0,hblk⟩:=put_start w (.int .i64 1) (.int .i64 (n : Int)) (.string ⟨#[]⟩) (.slice none 0 0)
 have hT0:=(hT.on hb0).up (B:=w.heap.size + 1) (by omega)
 have hcall:=wvalue_num (w.heap.size + 1) (w.heap.size + 2) n hn _ _ hw0 hT0
 have hpos : 0 < (numB n).length:=by simp [numB]
 obtain ⟨e0,e1,e2,e3,ef⟩:=val_block hblk
 unfold vNum at hcall
 have HC:=Lib.hid hcall
 clear hcall hT0
 unfold vNum numS
 generalize numB n = bf at *
 go_enter Tryz.func134,Tryz.ntmps134
 go_wp2_with fail
 generalize (w.alloc (.cells #[.int .i64 1,.int .i64 (n : Int),.string ⟨#[]⟩,.slice none 0 0] 202)).alloc (.cells #[.slice none 0 0] 250) = w0 at *
 refine HC.out.mono ?_
 rintro e w1 ⟨rfl,⟨u,hw1'⟩,hb1⟩
 obtain ⟨k0,k1,k2⟩:=hw1'.cell
 have hcv:=conv_row hw1'.own hpos 139 9 Tryz.underlying139 Tryz.underlying9
 go_wp2_with fail
 go_ret2
 exact ⟨rfl,hb0.trans (hb1.mono (by omega))⟩
end
section
open Go Go.RowKit
def headS (t : Nat) : ByteArray:=encS (numS t)
def HeadOf (s : ByteArray) (t : Nat) : Prop:=(s = ⟨#[]⟩ /\ t = 0) \/ (s = headS t /\ t <= 1000000000)
theorem headS_small (t : Nat) (ht : t <= 1000000000) : (headS t).size <= 36:=by
 unfold headS
 rw [encS_size]
 have:=numS_small t (by omega)
 omega
theorem head_take (t : Nat) (ht : t <= 1000000000) : tkL (headS t).data.toList = (numB t,(numB t).length + 14,0):=by
 have hs:=numS_small t (by omega)
 have:=tk_enc (numB t) [] (by show (numS t).size <= _;omega)
 rw [List.append_nil] at this
 exact this
section
variable {w w' : World} {F : Nat -> Prop} {d N : Nat} {su : List ByteArray} {l : List (Nat × ByteArray)}
theorem headAt_any (h : Disk w F d N su l) (k : Nat) (hk : k < N) (t : Nat) (hh : HeadOf ((setsP l su).getD k ⟨#[]⟩) t) (hT : TabW w) : Calls Tryz.prog 140 #[.pointer (some ⟨d,0,none⟩),.int .i64 (k : Int)] w (Gives (.int .i64 (t : Int)) w):=by
 have hg:=a_get h k hk
 rcases hh with ⟨hs,rfl⟩ | ⟨hs,ht⟩
 ·rw [hs] at hg
  have htk:=fun q=>take_any ⟨#[]⟩ (by decide) (w.drewN q) hT
  rw [show tkV (tkL (⟨#[]⟩ : ByteArray).data.toList) = .tuple #[.string ⟨#[]⟩,.int .i64 0,.int .i64 21] by rfl] at htk
  have HG:=Lib.hid hg
  have HT:=Lib.hid htk
  clear hg htk hs h hT
  go_enter Tryz.func140,Tryz.ntmps140
  go_wp2_with fail
  refine HG.out.mono ?_
  rintro e w1 ⟨rfl,q,rfl⟩
  go_wp2_with fail
  refine (HT.out q).mono ?_
  rintro e w2 ⟨rfl,hb⟩
  go_wp2_with fail
  go_ret
  exact ⟨rfl,(below_drewN (Below.refl _ w) q).trans hb⟩
 ·rw [hs] at hg
  have htk:=fun q=>take_any (headS t) (by have:=headS_small t ht;omega) (w.drewN q) hT
  rw [head_take t ht] at htk
  have hon:=fun w=>only_num t ht w
  unfold vNum at hon
  unfold tkV at htk
  have e1 : (⟨(numB t).toArray⟩ : ByteArray) = numS t:=rfl
  simp only [e1] at htk
  have HG:=Lib.hid hg
  have HT:=Lib.hid htk
  have HO:=Lib.hid hon
  clear hg htk hs h hT hon e1
  generalize numS t = s at *
  generalize (numB t).length + 14 = nn at *
  go_enter Tryz.func140,Tryz.ntmps140
  go_wp2_with fail
  refine HG.out.mono ?_
  rintro e w1 ⟨rfl,q,rfl⟩
  go_wp2_with fail
  refine (HT.out q).mono ?_
  rintro e w2 ⟨rfl,hb⟩
  go_wp2_with fail
  refine (HO.out _).mono ?_
  rintro e w3 ⟨rfl,hb3⟩
  go_wp2_with fail
  go_ret
  have hb4:=((below_drewN (Below.refl _ w) q).trans hb).trans (hb3.mono (B':=w.heap.size) hb.size)
  exact ⟨rfl,hb4.alloc hb4.size _⟩
theorem lastTurn_any (h : Disk w F d N su l) (h4 : 4 <= N) (t0 t1 : Nat) (hh0 : HeadOf ((setsP l su).getD 0 ⟨#[]⟩) t0) (hh1 : HeadOf ((setsP l su).getD 1 ⟨#[]⟩) t1) (hT : TabW w) : Calls Tryz.prog 90 #[.pointer (some ⟨d,0,none⟩)] w (Gives (.int .i64 ((max t0 t1 : Nat) : Int)) w):=by
 have ht0 : t0 <= 1000000000:=by rcases hh0 with ⟨_,h⟩ | ⟨_,h⟩ <;> omega
 have ht1 : t1 <= 1000000000:=by rcases hh1 with ⟨_,h⟩ | ⟨_,h⟩ <;> omega
 have hx:=Row.new w 216 [.int .i64 0,.int .i64 0]
 have hb0 : Below w.heap.size w (w.alloc (.cells #[.int .i64 0,.int .i64 0] 216)):=(Below.refl _ w).alloc (Nat.le_refl _) _
 have H:=Lib.hid (And.intro h (And.intro hh0 (And.intro hh1 hT)))
 have HX:=Lib.hid (And.intro hx hb0)
 have hpos:=hT.size
 clear h hh0 hh1 hT hx hb0
 go_enter Tryz.func90,Tryz.ntmps90
 go_wp2_with fail
 change Code.wp _ _ _ _ (w.alloc (.cells [Value.int .i64 0,Value.int .i64 0].toArray 216))
 generalize w.alloc (.cells [Value.int .i64 0,Value.int .i64 0].toArray 216) = w0 at *
 go_loopw [5] (fun i wr=>∃ (k : Nat),i = .int .i64 (k : Int) /\ k <= 2 /\ Row wr w.heap.size 216 [.int .i64 (if 0 < k then (t0 : Int) else 0),.int .i64 (if 1 < k then (t1 : Int) else 0)] /\ Below w.heap.size w wr) (fun i _=>2 - (intOf i).toNat)
 case atStart=>exact ⟨0,rfl,by omega,HX.out.1,HX.out.2⟩
 case round =>
  obtain ⟨k,rfl,hk,hR,hb⟩:=hrel
  have hD:=H.out.1.below hb
  have hT:=H.out.2.2.2.below hb hpos
  rcases (show k = 0 \/ k = 1 \/ k = 2 by omega) with rfl | rfl | rfl
  ·have hc:=headAt_any hD 0 (by omega) t0 H.out.2.1 hT
   have HC:=Lib.hid hc
   have HR:=Lib.hid (And.intro hR hb)
   clear hc hR hb hD hT
   go_wp2_with fail
   refine HC.out.mono ?_
   rintro e w1 ⟨rfl,hb1⟩
   have hR1:=HR.out.1.keep (hb1.block _ HR.out.1.lt)
   have hc0:=hR1.cell (j:=0) rfl
   have hz0:=hR1.frozen 0
   have hl:=hR1.lt
   go_wp2_with fail
   go_roundw
   case rel =>
    have:=hR1.set 0 (.int .i64 (t0 : Int))
    exact ⟨1,rfl,by omega,this,below_setCell (HR.out.2.trans (hb1.mono (B':=w.heap.size) HR.out.2.size)) (p:=⟨w.heap.size,0,none⟩) (Nat.le_refl _) _⟩
   case measure=>simp [intOf]
  ·have hc:=headAt_any hD 1 (by omega) t1 H.out.2.2.1 hT
   have HC:=Lib.hid hc
   have HR:=Lib.hid (And.intro hR hb)
   clear hc hR hb hD hT
   go_wp2_with fail
   refine HC.out.mono ?_
   rintro e w1 ⟨rfl,hb1⟩
   have hR1:=HR.out.1.keep (hb1.block _ HR.out.1.lt)
   have hc0:=hR1.cell (j:=1) rfl
   have hz0:=hR1.frozen 1
   have hl:=hR1.lt
   go_wp2_with fail
   go_roundw
   case rel =>
    have:=hR1.set 1 (.int .i64 (t1 : Int))
    exact ⟨2,rfl,by omega,this,below_setCell (HR.out.2.trans (hb1.mono (B':=w.heap.size) HR.out.2.size)) (p:=⟨w.heap.size,1,none⟩) (Nat.le_refl _) _⟩
   case measure=>simp [intOf]
  ·have hc0:=hR.cell (j:=0) rfl
   have hc1:=hR.cell (j:=1) rfl
   have hl:=hR.lt
   rw [if_pos (by omega)] at hc0 hc1
   have HB:=Lib.hid hb
   clear hR hb hD hT
   go_wp2_with fail
   go_ret
   refine ⟨?_,HB.out⟩
   rw [show ((max t0 t1 : Nat) : Int) = max (t0 : Int) (t1 : Int) by omega]
   rfl
theorem putHead_any (h : Disk w F d N su l) (h4 : 4 <= N) (t : Nat) (ht : t <= 1000000000) (hl : l.length <= 1000000) (hT : TabW w) (hP : Tabs w w.heap.size) : Calls Tryz.prog 155 #[.pointer (some ⟨d,0,none⟩),.int .i64 (t : Int)] w fun e w' =>
  e = .returned (.int .i64 0) /\ ∃ F',Disk w' F' d N su (l ++ [(t % 2,headS t)]) /\ Turn F w F' w':=by
 have hpos:=hT.size
 have hand:=i64_and1 (t : Int)
 rw [show (t : Int) % 2 = ((t % 2 : Nat) : Int) by omega] at hand
 have hbi:=bint_any (t : Int) w
 have hbp:=fun w1 (hb : Below w.heap.size w w1)=>bput_num t ht w1 ((hP.on hb).up hb.size)
 have hfp:=fun w1 (hb : Below w.heap.size w w1)=>put_any (numS t) (by have:=numS_small t (by omega);omega) w1 (hT.below hb hpos)
 rw [show putV (numS t) = .tuple #[.string (headS t),.int .i64 0] by unfold putV;rw [if_pos (by have:=numS_small t (by omega);omega)];rfl] at hfp
 have hdp:=fun w1 (hb : Below w.heap.size w w1)=>a_put (h.below hb) (t % 2) (by omega) (headS t) (by have:=headS_small t ht;omega) hl
 unfold vNum at hbp
 have H1:=Lib.hid hbi
 have H2:=Lib.hid hbp
 have H3:=Lib.hid hfp
 have H4:=Lib.hid hdp
 clear hbi hbp hfp hdp h hT hP hl hpos
 generalize headS t = hs at *
 generalize numS t = ns at *
 generalize t % 2 = par at *
 go_enter Tryz.func155,Tryz.ntmps155
 go_wp2_with fail
 refine H1.out.mono ?_
 rintro e w1 ⟨rfl,hb1⟩
 go_wp2_with fail
 refine (H2.out _ hb1).mono ?_
 rintro e w2 ⟨rfl,hb2⟩
 have hb2':=hb1.trans (hb2.mono (B':=w.heap.size) hb1.size)
 go_wp2_with fail
 refine (H3.out _ hb2').mono ?_
 rintro e w3 ⟨rfl,hb3⟩
 have hb3':=hb2'.trans (hb3.mono (B':=w.heap.size) hb2'.size)
 go_wp2_with fail
 refine (H4.out _ hb3').mono ?_
 rintro e w4 ⟨rfl,F',hD,hT⟩
 go_wp2_with fail
 go_ret
 exact ⟨rfl,F',hD,(Turn.below F hb3').trans hT⟩
end
end
end Go.Proofs.YtegjjhjgfkcbhaaGreatDoor
