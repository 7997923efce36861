/- Lay Clean. Conditions: as each part says. -/
import Derived.Test.YtegjjhjgfkcbhaaGreatDoorQ19
import Derived.Test.YtegjjhjgfkcbhaaGreatDoorQ34
set_option linter.unusedVariables false
set_option linter.unusedSimpArgs false
set_option maxRecDepth 100000
set_option maxHeartbeats 16000000
namespace Go.Proofs.YtegjjhjgfkcbhaaGreatDoor
section
open Go Go.RowKit
section
variable {w w' : World} {F : Nat -> Prop} {d N : Nat} {su : List ByteArray} {l : List (Nat × ByteArray)}
def LayRel (w W1 : World) (F : Nat -> Prop) (d N : Nat) (su : List ByteArray) (l : List (Nat × ByteArray)) (nw : List ByteArray) (b a c : Nat) (s : ByteArray) (vs vi : Value) (wr : World) : Prop :=
 ∃ (k : Nat) (s' : ByteArray) (F' : Nat -> Prop) (l' : List (Nat × ByteArray)),vs = .string s' /\ vi = .int .i64 ((a : Int) + (k : Int)) /\ k <= c /\ s'.size <= s.size /\ Disk wr F' d N su l' /\ l' ++ layW nw (b + k) (c - k) s'.data.toList = l ++ layW nw b c s.data.toList /\
  l'.length <= l.length + k /\ (∀ j,b + k <= j -> (setsP l' su).getD j ⟨#[]⟩ = nw.getD j ⟨#[]⟩) /\ Turn F W1 F' wr
theorem lay_any (h : Disk w F d N su l) (f n0 a c : Nat) (s : ByteArray) (hfn : f + a + c <= N) (hN : N <= 16384) (hl : l.length + c <= 1000000) (hs : s.size <= 1000000000) :
  Calls Tryz.prog 98 #[halfV d f n0,.int .i64 (a : Int),.int .i64 (c : Int),.string s] w fun e w'=>e = .returned (.int .i64 0) /\ ∃ F',Disk w' F' d N su (l ++ layW (setsP l su) (f + a) c s.data.toList) /\ Turn F w F' w':=by
 obtain ⟨W1,hW1⟩ : ∃ W1,W1 = w.alloc (.cells #[.pointer (some ⟨d,0,none⟩),.int .i64 (f : Int),.int .i64 (n0 : Int)] 156):=⟨_,rfl⟩
 have s1 : W1.heap.size = w.heap.size + 1:=by rw [hW1];simp
 have hx1 : Hf W1 w.heap.size d f n0:=by rw [hW1];exact Hf.new w d f n0
 have hD1 : Disk W1 F d N su l:=by rw [hW1];exact h.alloc _
 have hT1 : Turn F w F W1:=by rw [hW1];exact Turn.alloc F w _
 have hnF : ¬ F w.heap.size:=fun hf=>by have:=h.lt _ hf;omega
 have H:=Lib.hid (And.intro hD1 (And.intro hx1 (And.intro hT1 (And.intro hnF s1))))
 generalize hnw : setsP l su = nw at *
 have HNW:=Lib.hid hnw
 have HFN:=Lib.hid hfn
 have hac : (a : Int) + (c : Int) <= 20000:=by omega
 clear h hx1 hD1 hT1 hnF s1 hnw hfn
 unfold halfV
 go_enter Tryz.func98,Tryz.ntmps98
 go_wp2_with fail
 rw [<- hW1]
 clear hW1
 go_loopw [3,9] (fun vs vi wr=>Hid (LayRel w W1 F d N su l nw (f + a) a c s vs vi wr)) (fun _ vi _=>a + c - (intOf vi).toNat)
 case atStart=>exact Lib.hid ⟨0,s,F,l,rfl,by simp,Nat.zero_le _,Nat.le_refl _,H.out.1,rfl,Nat.le_refl _,fun j _=>by rw [HNW.out],Turn.refl F W1⟩
 case round =>
  obtain ⟨k,s',F',l',rfl,rfl,hk,hss,hD,hE,hll,hnx,hT⟩:=hrel.out
  have hH : Hf wr w.heap.size d f n0:=H.out.2.1.keep (hT.block _ (by have:=H.out.2.2.2.2;omega) H.out.2.2.2.1)
  have c0:=hH.c0
  have c1:=hH.c1
  have hl0:=hH.lt
  by_cases hlt : k < c
  ·have hltz : (a : Int) + (k : Int) < (a : Int) + (c : Int):=by omega
   have hff:=HFN.out
   have hfz : (f : Int) + ((a : Int) + (k : Int)) <= 40000:=by omega
   have hf0 : 0 <= (f : Int) + ((a : Int) + (k : Int)):=by omega
   have hg:=a_get hD (f + (a + k)) (by omega)
   have hgd : (setsP l' su).getD (f + (a + k)) ⟨#[]⟩ = nw.getD (f + a + k) ⟨#[]⟩:=by
    rw [show f + (a + k) = f + a + k by omega]
    exact hnx _ (Nat.le_refl _)
   rw [hgd,Int.natCast_add,Int.natCast_add] at hg
   have hm1 : s'.extract 0 (min 128 (s'.size : Int)).toNat = chk s'.data.toList 0:=by
    refine bytes_ext ?_
    simp only [Lib.extract_data,List.drop_zero,Nat.mul_zero,Nat.sub_zero,<- size_list]
    rcases Nat.lt_or_ge s'.data.toList.length 128 with hz | hz
    ·rw [List.take_of_length_le (by omega),List.take_of_length_le (by omega)]
    ·congr 1
     omega
   have hm2 : (s'.extract (min (min 128 (s'.size : Int)).toNat s'.size) s'.size).data.toList = s'.data.toList.drop 128:=by
    rw [Lib.extract_to_end,<- size_list]
    rcases Nat.lt_or_ge s'.data.toList.length 128 with hz | hz
    ·rw [List.drop_eq_nil_of_le (by omega),List.drop_eq_nil_of_le (by omega)]
    ·congr 1
     omega
   have hms : (chk s'.data.toList 0).size <= 128:=chk_le _ _
   have hsz2 : (s'.extract (min (min 128 (s'.size : Int)).toNat s'.size) s'.size).size <= s'.size:=by rw [ByteArray.size_extract];omega
   have hln : layW nw (f + a + k) (c - k) s'.data.toList = (if nw.getD (f + a + k) ⟨#[]⟩ = chk s'.data.toList 0 then [] else [(f + a + k,chk s'.data.toList 0)]) ++ layW nw (f + a + (k + 1)) (c - (k + 1)) (s'.data.toList.drop 128):=by
    rw [show c - k = (c - (k + 1)) + 1 by omega]
    rfl
   rw [hln] at hE
   have hput:=fun q=>a_put (hD.drewN q) (f + (a + k)) (by omega) (chk s'.data.toList 0) hms (by omega)
   rw [Int.natCast_add,Int.natCast_add] at hput
   have hset : ∀ j,f + a + (k + 1) <= j -> (setsP (l' ++ [(f + (a + k),chk s'.data.toList 0)]) su).getD j ⟨#[]⟩ = nw.getD j ⟨#[]⟩:=fun j hj=>by
    rw [setsP_snoc,List.getD_eq_getElem?_getD,List.getElem?_set_ne (by simp only;omega),<- List.getD_eq_getElem?_getD]
    exact hnx j (by omega)
   generalize nw.getD (f + a + k) ⟨#[]⟩ = hd at *
   have HG:=Lib.hid hg
   have HP:=Lib.hid hput
   have HM1:=Lib.hid hm1
   have HM2:=Lib.hid (And.intro hm2 hsz2)
   have HD:=Lib.hid (And.intro hD (And.intro hE (And.intro hll (And.intro hset (And.intro hT hnx)))))
   have HS:=Lib.hid hss
   clear hgd hln hg hput hm1 hm2 hD hE hll hset hT hH hnx hsz2 hrel hff hss
   go_wp2_with fail
   generalize s'.extract (min (min 128 (s'.size : Int)).toNat s'.size) s'.size = Rs at *
   rw [HM1.out]
   generalize chk s'.data.toList 0 = M at *
   refine HG.out.mono ?_
   rintro e w1 ⟨rfl,q,rfl⟩
   by_cases hne : hd = M
   ·subst hne
    have hE:=HD.out.2.1
    rw [if_pos rfl,List.nil_append,<- HM2.out.1] at hE
    have HE:=Lib.hid hE
    clear hE
    go_wp2_with fail
    go_roundw
    case rel=>exact Lib.hid ⟨k + 1,Rs,F',l',rfl,by go_num,by omega,Nat.le_trans HM2.out.2 HS.out,HD.out.1.drewN q,HE.out,by have:=HD.out.2.2.1;omega,fun j hj=>HD.out.2.2.2.2.2 j (by omega),HD.out.2.2.2.2.1.trans (Turn.drewN F' wr q)⟩
    case measure=>simp [intOf];omega
   ·have hE:=HD.out.2.1
    rw [if_neg hne,List.singleton_append,<- HM2.out.1] at hE
    have HE:=Lib.hid hE
    have hnb : (hd.toList == M.toList) = false:=bytes_ne hne
    clear hE
    have c0:=c0
    go_wp2_with fail
    refine (HP.out q).mono ?_
    rintro e w2 ⟨rfl,F2,hD2,hT2⟩
    have HY:=Lib.hid (And.intro hD2 hT2)
    clear hD2 hT2
    go_wp2_with fail
    go_roundw
    case rel=>exact Lib.hid ⟨k + 1,Rs,F2,_,rfl,by go_num,by omega,Nat.le_trans HM2.out.2 HS.out,HY.out.1,by
      rw [List.append_assoc,List.singleton_append,show f + (a + k) = f + a + k by omega]
      exact HE.out,by rw [List.length_append];have:=HD.out.2.2.1;simp;omega,HD.out.2.2.2.1,HD.out.2.2.2.2.1.trans ((Turn.drewN F' wr q).trans HY.out.2)⟩
    case measure=>simp [intOf];omega
  ·obtain rfl : k = c:=by omega
   have hnl : ¬ (a : Int) + (k : Int) < (a : Int) + (k : Int):=by omega
   rw [Nat.sub_self] at hE
   have HY:=Lib.hid (And.intro hD (And.intro hE hT))
   clear hrel hD hE hll hnx hT
   go_wp2_with fail
   go_ret
   have hE:=HY.out.2.1
   rw [show layW nw (f + a + k) 0 s'.data.toList = [] from rfl,List.append_nil] at hE
   rw [<- hE]
   exact ⟨rfl,F',HY.out.1,H.out.2.2.1.trans HY.out.2.2⟩
end
end
section
open Go Go.RowKit
def cleanR (su : List ByteArray) (l W : List (Nat × ByteArray)) : List ByteArray × List (Nat × ByteArray):=if W = [] then (su,l) else (setsP (l ++ W) su,[])
section
variable {w w' : World} {F G : Nat -> Prop} {p d t f n N : Nat} {R : List (List UInt8)} {vr : Value} {st : Nat} {ad : Addr} {m c : Nat} {E : List UInt8} {su : List ByteArray} {l : List (Nat × ByteArray)}
theorem clean_any (hD : Disk w F d N su l) (h : LgR w G p d t f n R vr st (some ad) m c E) (ha : ∀ b,F b -> ¬ G b) (hfn : f + n <= N) (hN : N <= 16384) (hmn : m <= 128 * n) (hl : l.length + n <= 900000) :
  Calls Tryz.prog 94 #[.pointer (some ⟨p,0,none⟩)] w fun e w'=>e = .returned (.int .i64 0) /\ ∃ F',Disk w' F' d N (cleanR su l (layW (setsP l su) (f + m / 128) (n - m / 128) (E.drop (128 * (m / 128))))).1 (cleanR su l (layW (setsP l su) (f + m / 128) (n - m / 128) (E.drop (128 * (m / 128))))).2 /\ Turn F w F' w':=by
 have hlen:=h.len
 obtain ⟨k,hk⟩ : ∃ k,k = m / 128:=⟨_,rfl⟩
 have hkz : (m : Int) / 128 = (k : Int):=by omega
 have hkm : 128 * k <= m:=by omega
 have hkn : k <= n:=by omega
 rw [<- hk]
 obtain ⟨X,hX⟩ : ∃ X,X = E.drop (128 * k):=⟨_,rfl⟩
 rw [<- hX]
 have hXs : (⟨X.toArray⟩ : ByteArray).size <= 1000000000:=by show X.length <= _;rw [hX,List.length_drop];omega
 have hlay:=fun q=>lay_any ((hD.drewN q)) f n k (n - k) ⟨X.toArray⟩ (by omega) hN (by omega) hXs
 have hln:=layW_len (setsP l su) (n - k) (f + k) X
 have hlx : (⟨X.toArray⟩ : ByteArray).data.toList = X:=rfl
 rw [hlx] at hlay
 rw [show ((n - k : Nat) : Int) = (n : Int) - (k : Int) by omega] at hlay
 generalize layW (setsP l su) (f + k) (n - k) X = WW at *
 have hloose:=a_loose hD
 have hk8 : ((k : Int) * 128) <= (m : Int):=by omega
 have c1:=h.c1
 have c8:=h.c8
 have pl:=h.pl
 have hmc:=h.mc
 have HL:=Lib.hid hlay
 have HH:=Lib.hid (And.intro hD (And.intro h ha))
 have hrd:=h.en
 have hc0:=h.an
 have hzl : (l.length : Int) <= 1000000:=by omega
 clear hD h ha hlay hk hlx hXs hlen
 unfold halfV at HL
 by_cases hck : c = 128 * k
 ·obtain rfl : m = c:=by omega
  have hX0 : X = []:=by rw [hX];exact List.drop_eq_nil_of_le (by have:=HH.out.2.1.len;omega)
  have hcv : ∀ w',LgR w' G p d t f n R vr st (some ad) m m E -> (convert 139 9 (.slice (some ad) 0 0)).run Tryz.prog w' = .ok (.string ⟨X.toArray⟩) w':=fun w' _=>by
   rw [hX0]
   exact conv_reads (A:=some ad) (B:=0) ⟨rfl,fun h=>absurd h (by omega)⟩ _ 139 9 Tryz.underlying139 Tryz.underlying9
  have HC:=Lib.hid hcv
  have hw1 : IntKind.i64.wrap ((k : Int) * 128) = (m : Int):=by simp only [IntKind.wrap_i64];omega
  have hw2 : IntKind.i64.wrap ((n : Int) - (k : Int)) = (n : Int) - (k : Int):=by simp only [IntKind.wrap_i64];omega
  clear hcv hrd hc0 hck hX hX0 hk8 hkm
  go_enter Tryz.func94,Tryz.ntmps94
  go_wp2_with fail
  refine hloose.mono ?_
  rintro e w1 ⟨rfl,q,rfl⟩
  have c3:=(HH.out.2.1.drewN q).c3
  have c4:=(HH.out.2.1.drewN q).c4
  have c5:=(HH.out.2.1.drewN q).c5
  have c8:=(HH.out.2.1.drewN q).c8
  go_wp2_with fail
  go_region_held3 (fun w'=>w'.cell? ⟨p,3,none⟩ = some (.pointer (some ⟨d,0,none⟩)) /\ w'.cell? ⟨p,4,none⟩ = some (.int .i64 (f : Int)) /\ w'.cell? ⟨p,5,none⟩ = some (.int .i64 (n : Int)) /\ w'.cell? ⟨p,8,none⟩ = some (.slice (some ad) m m) /\ (convert 139 9 (.slice (some ad) 0 0)).run Tryz.prog w' = .ok (.string ⟨X.toArray⟩) w')
   (first | exact ⟨d3,d4,d5,d8,dcv⟩ | exact ⟨c3,c4,c5,c8,HC.out _ (HH.out.2.1.drewN (q + 1))⟩)
   ((go_at_call 98;refine (HL.out (q + 1)).mono ?_;rintro e w5 ⟨rfl,F5,hD5,hT5⟩;have H5:=(HH.out.2.1.drewN (q + 1)).turn hT5 HH.out.2.2;have d3:=H5.c3;have d4:=H5.c4;have d5:=H5.c5;have d8:=H5.c8;have dcv:=HC.out _ H5))
  have d1:=H5.c1
  have H5':=Lib.hid (And.intro hD5 ((Turn.drewN F w (q + 1)).trans hT5))
  have hl5:=a_loose hD5
  clear hD5 hT5 H5 c3 c4 c5 c8 d3 d4 d5 d8 dcv
  rw [List.length_append] at hl5
  by_cases hW : WW = []
  ·have hr : cleanR su l WW = (su,l):=by unfold cleanR;rw [if_pos hW]
   subst hW
   rw [List.append_nil] at H5'
   rw [List.length_nil,Nat.add_zero] at hl5
   have HR:=Lib.hid hr
   clear hr
   go_wp2_with fail
   refine hl5.mono ?_
   rintro e w6 ⟨rfl,q6,rfl⟩
   go_wp2_with fail
   go_ret
   rw [HR.out]
   exact ⟨rfl,F5,H5'.out.1.drewN q6,H5'.out.2.trans (Turn.drewN F5 w5 q6)⟩
  ·have hr : cleanR su l WW = (setsP (l ++ WW) su,[]):=by unfold cleanR;rw [if_neg hW]
   have hpos : 0 < WW.length:=List.length_pos_iff.2 hW
   have hwz : ¬ ((l.length + WW.length : Nat) : Int) = (l.length : Int):=by omega
   have hsy:=fun q6=>a_sync (H5'.out.1.drewN q6) (by rw [List.length_append];omega)
   have HR:=Lib.hid hr
   have HS:=Lib.hid hsy
   clear hr hsy hW hpos
   generalize l.length + WW.length = lw at *
   go_wp2_with fail
   refine hl5.mono ?_
   rintro e w6 ⟨rfl,q6,rfl⟩
   go_wp2_with fail
   refine (HS.out q6).mono ?_
   rintro e w7 ⟨rfl,hD7,hT7⟩
   go_wp2_with fail
   go_ret
   rw [HR.out]
   exact ⟨rfl,F5,hD7,H5'.out.2.trans ((Turn.drewN F5 w5 q6).trans hT7)⟩
 ·have hcv : ∀ w',LgR w' G p d t f n R vr st (some ad) m c E -> (convert 139 9 (.slice (some (ad.add (k * 128))) (m - k * 128) (c - k * 128))).run Tryz.prog w' = .ok (.string ⟨X.toArray⟩) w':=fun w' hw'=>by
   have hrc:=hw'.en.cut (k:=128 * k) (cap:=c) (by omega) hmc.1
   rw [if_neg hck,Nat.mul_one,byteCells_drop,Option.map_some,<- hX,show 128 * k = k * 128 by omega] at hrc
   exact conv_reads hrc (c - k * 128) 139 9 Tryz.underlying139 Tryz.underlying9
  have HC:=Lib.hid hcv
  have hck2 : ¬ c = k * 128:=by omega
  have hw1 : IntKind.i64.wrap ((k : Int) * 128) = (k : Int) * 128:=by simp only [IntKind.wrap_i64];omega
  have hw2 : IntKind.i64.wrap ((n : Int) - (k : Int)) = (n : Int) - (k : Int):=by simp only [IntKind.wrap_i64];omega
  have hb1 : (0 : Int) <= (k : Int) * 128:=by omega
  have hb2 : (k : Int) * 128 <= (c : Int):=by omega
  have hb3 : ((k : Int) * 128).toNat = k * 128:=by omega
  clear hcv hrd hc0 hck hX
  go_enter Tryz.func94,Tryz.ntmps94
  go_wp2_with fail
  refine hloose.mono ?_
  rintro e w1 ⟨rfl,q,rfl⟩
  have c3:=(HH.out.2.1.drewN q).c3
  have c4:=(HH.out.2.1.drewN q).c4
  have c5:=(HH.out.2.1.drewN q).c5
  have c8:=(HH.out.2.1.drewN q).c8
  go_wp2_with fail
  go_region_held3 (fun w'=>w'.cell? ⟨p,3,none⟩ = some (.pointer (some ⟨d,0,none⟩)) /\ w'.cell? ⟨p,4,none⟩ = some (.int .i64 (f : Int)) /\ w'.cell? ⟨p,5,none⟩ = some (.int .i64 (n : Int)) /\ w'.cell? ⟨p,8,none⟩ = some (.slice (some ad) m c) /\ (convert 139 9 (.slice (some (ad.add (k * 128))) (m - k * 128) (c - k * 128))).run Tryz.prog w' = .ok (.string ⟨X.toArray⟩) w')
   (first | exact ⟨d3,d4,d5,d8,dcv⟩ | exact ⟨c3,c4,c5,c8,HC.out _ (HH.out.2.1.drewN (q + 1))⟩)
   ((go_at_call 98;refine (HL.out (q + 1)).mono ?_;rintro e w5 ⟨rfl,F5,hD5,hT5⟩;have H5:=(HH.out.2.1.drewN (q + 1)).turn hT5 HH.out.2.2;have d3:=H5.c3;have d4:=H5.c4;have d5:=H5.c5;have d8:=H5.c8;have dcv:=HC.out _ H5))
  have d1:=H5.c1
  have H5':=Lib.hid (And.intro hD5 ((Turn.drewN F w (q + 1)).trans hT5))
  have hl5:=a_loose hD5
  clear hD5 hT5 H5 c3 c4 c5 c8 d3 d4 d5 d8 dcv
  rw [List.length_append] at hl5
  by_cases hW : WW = []
  ·have hr : cleanR su l WW = (su,l):=by unfold cleanR;rw [if_pos hW]
   subst hW
   rw [List.append_nil] at H5'
   rw [List.length_nil,Nat.add_zero] at hl5
   have HR:=Lib.hid hr
   clear hr
   go_wp2_with fail
   refine hl5.mono ?_
   rintro e w6 ⟨rfl,q6,rfl⟩
   go_wp2_with fail
   go_ret
   rw [HR.out]
   exact ⟨rfl,F5,H5'.out.1.drewN q6,H5'.out.2.trans (Turn.drewN F5 w5 q6)⟩
  ·have hr : cleanR su l WW = (setsP (l ++ WW) su,[]):=by unfold cleanR;rw [if_neg hW]
   have hpos : 0 < WW.length:=List.length_pos_iff.2 hW
   have hwz : ¬ ((l.length + WW.length : Nat) : Int) = (l.length : Int):=by omega
   have hsy:=fun q6=>a_sync (H5'.out.1.drewN q6) (by rw [List.length_append];omega)
   have HR:=Lib.hid hr
   have HS:=Lib.hid hsy
   clear hr hsy hW hpos
   generalize l.length + WW.length = lw at *
   go_wp2_with fail
   refine hl5.mono ?_
   rintro e w6 ⟨rfl,q6,rfl⟩
   go_wp2_with fail
   refine (HS.out q6).mono ?_
   rintro e w7 ⟨rfl,hD7,hT7⟩
   go_wp2_with fail
   go_ret
   rw [HR.out]
   exact ⟨rfl,F5,hD7,H5'.out.2.trans ((Turn.drewN F5 w5 q6).trans hT7)⟩
end
end
end Go.Proofs.YtegjjhjgfkcbhaaGreatDoor
