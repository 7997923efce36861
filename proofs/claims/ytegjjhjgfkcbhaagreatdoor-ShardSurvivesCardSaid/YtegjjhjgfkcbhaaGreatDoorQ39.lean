/- Join Flush Add. Conditions: as each part says. -/
import Derived.Test.YtegjjhjgfkcbhaaGreatDoorQ19
import Derived.Test.YtegjjhjgfkcbhaaGreatDoorQ35
import Derived.Test.YtegjjhjgfkcbhaaGreatDoorQ37
import Derived.Test.YtegjjhjgfkcbhaaGreatDoorQ38
set_option linter.unusedVariables false
set_option linter.unusedSimpArgs false
set_option maxRecDepth 100000
set_option maxHeartbeats 16000000
namespace Go.Proofs.YtegjjhjgfkcbhaaGreatDoor
section
open Go Go.RowKit
def joinE (rs : List (List UInt8)) (M : Nat) : Int:=if rs.all fun r=>decide (r.length <= 32768) then (if (encs rs).length <= M then 0 else 70) else 23
def joinV (rs : List (List UInt8)) (M : Nat) : Value:=.tuple #[.string (if joinE rs M = 0 then ⟨(encs rs).toArray⟩ else ⟨#[]⟩),.int .i64 (joinE rs M)]
theorem joinE_long {rs : List (List UInt8)} {M : Nat} {r : List UInt8} (hr : r ∈ rs) (h : ¬ r.length <= 32768) : joinE rs M = 23:=by
 unfold joinE
 rw [if_neg]
 intro hall
 rw [List.all_eq_true] at hall
 exact h (of_decide_eq_true (hall r hr))
theorem joinE_full {rs : List (List UInt8)} {M : Nat} (hr : ∀ r ∈ rs,r.length <= 32768) (h : M < (encs rs).length) : joinE rs M = 70:=by
 unfold joinE
 rw [if_pos (List.all_eq_true.2 fun r h=>decide_eq_true (hr r h)),if_neg (by omega)]
theorem joinE_ok {rs : List (List UInt8)} {M : Nat} (hr : ∀ r ∈ rs,r.length <= 32768) (h : (encs rs).length <= M) : joinE rs M = 0:=by
 unfold joinE
 rw [if_pos (List.all_eq_true.2 fun r h=>decide_eq_true (hr r h)),if_pos h]
theorem encs_next (rs : List (List UInt8)) (k : Nat) (hk : k < rs.length) : encs (rs.take (k + 1)) = encs (rs.take k) ++ enc (rs.getD k []):=by
 rw [List.take_succ_eq_append_getElem hk,encs_append,List.getD_eq_getElem?_getD,List.getElem?_eq_getElem hk]
 simp [encs]
theorem encs_part (rs : List (List UInt8)) (k : Nat) : (encs (rs.take k)).length <= (encs rs).length:=by
 rw [encs_take_pre rs k,List.length_append]
 omega
theorem join_any (rs : List (List UInt8)) (M : Nat) (hM : M <= 3000000) (A : Option Addr) (n c : Nat) (w : World) (hR : Reads w w.heap.size 1 A n (strL rs)) (hn : n <= maxLen) (hT : TabW w) :
  Calls Tryz.prog 136 #[.int .i64 (M : Int),.slice A n c] w (Gives (joinV rs M) w):=by
 have hlen:=reads_len hR
 have HL:=Lib.hid hlen
 have H:=Lib.hid (And.intro hR hT)
 have hnm : (n : Int) <= 9223372036854775807:=by unfold maxLen at hn;omega
 clear hR hT hlen hn
 go_enter Tryz.func136,Tryz.ntmps136
 go_wp2_with fail
 go_loopw [15] (fun i wr=>∃ (k q : Nat),i = .int .i64 (k : Int) /\ k <= n /\ Hid (∀ r ∈ rs.take k,r.length <= 32768) /\ wr = w.drewN q) (fun i _=>n - (intOf i).toNat)
 case atStart=>exact ⟨0,0,rfl,Nat.zero_le _,Lib.hid (by simp),rfl⟩
 case round =>
  obtain ⟨k,q,rfl,hk,HA,rfl⟩:=hrel
  by_cases hlt : k < n
  ·have hltz : (k : Int) < (n : Int):=by omega
   have hkl : k < rs.length:=by have:=HL.out;omega
   obtain ⟨ad,rfl,hb,hcell⟩:=reads_str (H.out.1.drewN q) hlt
   have hmem : rs.getD k [] ∈ rs:=by rw [List.getD_eq_getElem?_getD,List.getElem?_eq_getElem hkl];exact List.getElem_mem _
   have hsz : (⟨(rs.getD k []).toArray⟩ : ByteArray).size = (rs.getD k []).length:=rfl
   have hbk : (ad.add k).block < w.heap.size:=by rw [block_of_add];exact hb
   by_cases hlong : (rs.getD k []).length <= 32768
   ·have HN : Hid (∀ r ∈ rs.take (k + 1),r.length <= 32768):=Lib.hid (by
     rw [List.take_succ_eq_append_getElem hkl]
     intro r hr
     rcases List.mem_append.1 hr with hr | hr
     ·exact HA.out r hr
     ·simp only [List.mem_singleton] at hr
      rw [hr]
      rw [List.getD_eq_getElem?_getD,List.getElem?_eq_getElem hkl] at hlong
      exact hlong)
    have hzz : ((⟨(rs.getD k []).toArray⟩ : ByteArray).size : Int) <= 32768:=by rw [hsz];omega
    clear HA hsz hmem hlong hkl
    generalize (⟨(rs.getD k []).toArray⟩ : ByteArray) = s at *
    go_wp2_with fail
    go_roundw
    case rel=>exact ⟨k + 1,q,by go_num,by omega,HN,rfl⟩
    case measure=>simp [intOf];omega
   ·have HE:=Lib.hid (joinE_long (M:=M) hmem hlong)
    have hzz : 32768 < ((⟨(rs.getD k []).toArray⟩ : ByteArray).size : Int):=by rw [hsz];omega
    clear HA hsz hmem hlong hkl
    generalize (⟨(rs.getD k []).toArray⟩ : ByteArray) = s at *
    go_wp2_with fail
    go_ret2
    unfold joinV
    rw [HE.out]
    exact ⟨rfl,below_drewN (Below.refl _ _) q⟩
  ·obtain rfl : k = n:=by omega
   have hnl : ¬ (k : Int) < (k : Int):=by omega
   have HALL : Hid (∀ r ∈ rs,r.length <= 32768):=Lib.hid (by
    have:=HA.out
    rw [List.take_of_length_le (by have:=HL.out;omega)] at this
    exact this)
   have hW0 : ∃ W0,W0 = (w.drewN q).alloc (.cells #[.pointer none,.slice none 0 0] 141):=⟨_,rfl⟩
   obtain ⟨W0,hW0⟩:=hW0
   have hbd : Bld w.heap.size w.heap.size [] W0:=by rw [hW0];exact bld_new (w.drewN q)
   have hb0 : Below w.heap.size w W0:=by rw [hW0];exact (below_drewN (Below.refl _ w) q).alloc (Nat.le_refl _) _
   have hs0 : w.heap.size + 1 <= W0.heap.size:=by rw [hW0];simp
   have HW:=Lib.hid (And.intro hbd (And.intro hb0 hs0))
   clear hbd hb0 hs0 HA
   go_wp2_with fail
   rw [<- hW0]
   clear hW0
   go_loopw [25] (fun i wr=>∃ (j : Nat),i = .int .i64 (j : Int) /\ j <= k /\ Hid ((encs (rs.take j)).length <= M) /\ Bld w.heap.size w.heap.size (encs (rs.take j)) wr /\ Below w.heap.size w wr /\ w.heap.size + 1 <= wr.heap.size) (fun i _=>k - (intOf i).toNat)
   case atStart=>exact ⟨0,rfl,Nat.zero_le _,Lib.hid (Nat.zero_le _),HW.out.1,HW.out.2.1,HW.out.2.2⟩
   case round =>
    clear HW hlt hnl
    obtain ⟨j,rfl,hj,HJ,hB,hb,hsw⟩:=hrel
    by_cases hlt : j < k
    ·have hltz : (j : Int) < (k : Int):=by omega
     have hkl : j < rs.length:=by have:=HL.out;omega
     obtain ⟨ad,rfl,hbk,hcell⟩:=reads_str (H.out.1.below hb) hlt
     have hmem : rs.getD j [] ∈ rs:=by rw [List.getD_eq_getElem?_getD,List.getElem?_eq_getElem hkl];exact List.getElem_mem _
     have hbk : (ad.add j).block < wr.heap.size:=by rw [block_of_add];omega
     have hput:=put_any ⟨(rs.getD j []).toArray⟩ (by have:=HALL.out _ hmem;show (rs.getD j []).length <= 300000;omega) wr (H.out.2.below hb H.out.2.size)
     have hpv : putV ⟨(rs.getD j []).toArray⟩ = .tuple #[.string (encS ⟨(rs.getD j []).toArray⟩),.int .i64 0]:=by
      unfold putV
      rw [if_pos (by have:=HALL.out _ hmem;show (rs.getD j []).length <= 262144;omega)]
     rw [hpv] at hput
     have hes : (encS ⟨(rs.getD j []).toArray⟩).data.toList = enc (rs.getD j []):=rfl
     have hez : (encS ⟨(rs.getD j []).toArray⟩).size = (enc (rs.getD j [])).length:=rfl
     have hnx:=encs_next rs j hkl
     have hnl:=congrArg List.length hnx
     rw [List.length_append,<- hez] at hnl
     have HP:=Lib.hid hput
     have HN:=Lib.hid (And.intro hnx hnl)
     have hJ:=HJ.out
     have hel : (encS ⟨(rs.getD j []).toArray⟩).size <= 300000:=by rw [hez,enc_len];have:=HALL.out _ hmem;omega
     clear hput hpv hmem hnx hkl
     generalize hS : encS ⟨(rs.getD j []).toArray⟩ = S at *
     generalize (⟨(rs.getD j []).toArray⟩ : ByteArray) = s at *
     have HES:=Lib.hid hes
     have HB:=Lib.hid (And.intro hB (And.intro hb hsw))
     clear hes hS hB hb hsw hez
     by_cases hfit : S.size <= M - (encs (rs.take j)).length
     ·have hfz : ¬ (M : Int) - ((encs (rs.take j)).length : Int) < (S.size : Int):=by omega
      have HJ2 : Hid ((encs (rs.take (j + 1))).length <= M):=Lib.hid (by omega)
      have hbl:=fun (w' : World) (hb' : Below wr.heap.size wr w')=>blen_any w.heap.size w.heap.size (encs (rs.take j)) w' (bld_kept HB.out.1 hb')
      have hbw:=fun (w' : World) (hb' : Below wr.heap.size wr w')=>bwrite_any w.heap.size w.heap.size (encs (rs.take j)) S w' (bld_kept HB.out.1 hb') (by omega) (by have:=hb'.size;have:=HB.out.2.2;omega)
      have HBL:=Lib.hid hbl
      have HBW:=Lib.hid hbw
      clear hbl hbw hfit hnl HJ
      generalize (encs (rs.take j)).length = eN at *
      go_wp2_with fail
      refine HP.out.mono ?_
      rintro e w1 ⟨rfl,hb1⟩
      go_wp2_with fail
      refine (HBL.out w1 hb1).mono ?_
      rintro e w2 ⟨rfl,rfl⟩
      go_wp2_with fail
      refine (HBW.out w1 hb1).mono ?_
      rintro e w3 ⟨rfl,hB3,hb3⟩
      rw [HES.out,<- HN.out.1] at hB3
      have HY:=Lib.hid (And.intro hB3 (And.intro (HB.out.2.1.trans ((hb1.mono (B':=w.heap.size) (by have:=HB.out.2.2;omega)).trans hb3)) (show w.heap.size + 1 <= w3.heap.size by have:=HB.out.2.2;have:=hb1.size;have:=hb3.size;omega)))
      clear hB3 hb3 hb1
      go_wp2_with fail
      go_roundw
      case rel=>exact ⟨j + 1,by go_num,by omega,HJ2,HY.out.1,HY.out.2.1,HY.out.2.2⟩
      case measure=>simp [intOf];omega
     ·have hfz : (M : Int) - ((encs (rs.take j)).length : Int) < (S.size : Int):=by omega
      have HE:=Lib.hid (joinE_full (M:=M) HALL.out (by have:=encs_part rs (j + 1);omega))
      have hbl:=fun (w' : World) (hb' : Below wr.heap.size wr w')=>blen_any w.heap.size w.heap.size (encs (rs.take j)) w' (bld_kept HB.out.1 hb')
      have HBL:=Lib.hid hbl
      clear hbl hfit hnl HJ
      generalize (encs (rs.take j)).length = eN at *
      go_wp2_with fail
      refine HP.out.mono ?_
      rintro e w1 ⟨rfl,hb1⟩
      go_wp2_with fail
      refine (HBL.out w1 hb1).mono ?_
      rintro e w2 ⟨rfl,rfl⟩
      go_wp2_with fail
      go_ret2
      unfold joinV
      rw [HE.out]
      exact ⟨rfl,HB.out.2.1.trans (hb1.mono (B':=w.heap.size) (by have:=HB.out.2.2;omega))⟩
    ·obtain rfl : j = k:=by omega
     have hnl : ¬ (j : Int) < (j : Int):=by omega
     have hfull : rs.take j = rs:=List.take_of_length_le (by have:=HL.out;omega)
     rw [hfull] at HJ hB
     have HE:=Lib.hid (joinE_ok HALL.out HJ.out)
     have HB:=Lib.hid (And.intro hB (And.intro hb hsw))
     clear hB hb hsw hfull HJ
     go_wp2_with fail
     refine (bstring_any w.heap.size w.heap.size (encs rs) wr HB.out.1 (by have:=HB.out.2.2;omega)).mono ?_
     rintro e w3 ⟨rfl,hb3⟩
     go_wp2_with fail
     go_ret2
     unfold joinV
     rw [HE.out]
     exact ⟨rfl,HB.out.2.1.trans hb3⟩
end
section
open Go Go.RowKit
def Heads (t : Nat) (su : List ByteArray) : Prop:=∃ a b,HeadOf (su.getD 0 ⟨#[]⟩) a /\ HeadOf (su.getD 1 ⟨#[]⟩) b /\ max a b = t
structure LogD (N t : Nat) (R : List (List UInt8)) (sr : Nat) (su : List ByteArray) (l : List (Nat × ByteArray)) : Prop where
 h4 : 4 <= N
 hN : N <= 16384
 ht : t <= 1000000
 small : ∀ r ∈ R,r.length <= 32768
 fit : (encs R).length <= 128 * hB N t
 heads : Heads t su
 way : ∃ m,AtH su (hF N t) (hB N t) ((encs R).take m) /\ Way (hF N t) (hB N t) (encs R) m l (encs R).length /\ (encs (R.take sr)).length = m
 sr : sr <= R.length
structure LogS (w : World) (F G : Nat -> Prop) (p d N t st : Nat) (R : List (List UInt8)) (sr : Nat) (su : List ByteArray) (l : List (Nat × ByteArray)) : Prop where
 disk : Disk w F d N su l
 mem : ∃ vr A m c,LgW w G p d t (hF N t) (hB N t) R vr st A m c ((encs R).drop (128 * st))
 apart : ∀ b,F b -> ¬ G b
 ok : LogD N t R sr su l
 stE : 128 * st <= (encs R).length
section
variable {w w' : World} {F G F' : Nat -> Prop} {p d N t st : Nat} {R : List (List UInt8)} {sr : Nat} {su : List ByteArray} {l : List (Nat × ByteArray)}
theorem LogD.now (h : LogD N t R sr su l) : AtH (setsP l su) (hF N t) (hB N t) (encs R):=by
 obtain ⟨m,h1,h2,_⟩:=h.way
 have:=h2.at_ su h1
 rwa [List.take_length] at this
theorem LogS.below (h : LogS w F G p d N t st R sr su l) (hb : Below w.heap.size w w') : LogS w' F G p d N t st R sr su l :=
 ⟨h.disk.below hb,by obtain ⟨vr,A,m,c,k⟩:=h.mem;exact ⟨vr,A,m,c,k.below hb⟩,h.apart,h.ok,h.stE⟩
theorem LogS.drewN (h : LogS w F G p d N t st R sr su l) (q : Nat) : LogS (w.drewN q) F G p d N t st R sr su l :=
 ⟨h.disk.drewN q,by obtain ⟨vr,A,m,c,k⟩:=h.mem;exact ⟨vr,A,m,c,k.drewN q⟩,h.apart,h.ok,h.stE⟩
theorem LogS.stB (h : LogS w F G p d N t st R sr su l) : st <= hB N t /\ hB N t <= 16384:=by
 have:=h.ok.fit
 have:=h.stE
 have:=h.ok.hN
 have:=(hFB N t h.ok.h4).2.1
 omega
theorem LogD.sync (h : LogD N t R sr su l) : LogD N t R R.length (setsP l su) []:=by
 have hn:=h.now
 obtain ⟨m,h1,h2,h3⟩:=h.way
 have hp:=h2.place
 have h2f:=(hFB N t h.h4).1
 refine ⟨h.h4,h.hN,h.ht,h.small,h.fit,?_,⟨(encs R).length,by rw [List.take_length];exact hn,.nil _,by rw [List.take_length]⟩,Nat.le_refl _⟩
 obtain ⟨a,b,ha,hb,e⟩:=h.heads
 have g : ∀ i,i < 2 -> (setsP l su).getD i ⟨#[]⟩ = su.getD i ⟨#[]⟩:=fun i hi=>by
  rw [List.getD_eq_getElem?_getD,List.getD_eq_getElem?_getD,setsP_other (fun p hpp e=>by have:=(hp p hpp).1;omega)]
 exact ⟨a,b,by rw [g 0 (by omega)];exact ha,by rw [g 1 (by omega)];exact hb,e⟩
def Un (F G : Nat -> Prop) : Nat -> Prop:=fun b=>F b \/ G b
theorem Turn.left (h : Turn F w F' w') (G : Nat -> Prop) : Turn (Un F G) w (Un F' G) w' :=
 ⟨h.os,h.tape,h.output,h.size,fun b hb hf=>h.block b hb (fun hF=>hf (.inl hF)),fun b hb=>hb.elim (fun hb=>(h.foot b hb).imp .inl id) (fun hb=>.inl (.inr hb))⟩
theorem Turn.right {G' : Nat -> Prop} (h : Turn G w G' w') (F : Nat -> Prop) : Turn (Un F G) w (Un F G') w' :=
 ⟨h.os,h.tape,h.output,h.size,fun b hb hf=>h.block b hb (fun hF=>hf (.inr hF)),fun b hb=>hb.elim (fun hb=>.inl (.inl hb)) (fun hb=>(h.foot b hb).imp .inr id)⟩
theorem apart_left (h : Turn F w F' w') (ha : ∀ b,F b -> ¬ G b) (hG : ∀ b,G b -> b < w.heap.size) : ∀ b,F' b -> ¬ G b:=fun b hb hg=>(h.foot b hb).elim (fun hF=>ha b hF hg) (fun hn=>by have:=hG b hg;omega)
theorem apart_right {G' : Nat -> Prop} (h : Turn G w G' w') (ha : ∀ b,F b -> ¬ G b) (hF : ∀ b,F b -> b < w.heap.size) : ∀ b,F b -> ¬ G' b:=fun b hb hg=>(h.foot b hg).elim (fun hG=>ha b hb hG) (fun hn=>by have:=hF b hb;omega)
theorem flush_any (h : LogS w F G p d N t st R sr su l) (hl : l.length <= 900000) : Calls Tryz.prog 54 #[.pointer (some ⟨p,0,none⟩)] w fun e w' =>
  e = .returned (.int .i64 0) /\ ∃ F' G' st',LogS w' F' G' p d N t st' R R.length (setsP l su) [] /\ Turn (Un F G) w (Un F' G') w':=by
 obtain ⟨vr,A,m,c,hM⟩:=h.mem
 obtain ⟨hs1,hs2⟩:=h.stB
 have hF3:=hFB N t h.ok.h4
 have hfit:=h.ok.fit
 have hstE:=h.stE
 have hN:=h.ok.hN
 have hlen:=hM.toLgR.len
 have hxl : ((encs R).drop (128 * st)).length = (encs R).length - 128 * st:=List.length_drop
 have hg:=lgiven_any hM.toLgR
 obtain ⟨cnt,hcnt⟩ : ∃ cnt,cnt = (((encs R).drop (128 * st)).length + 127) / 128:=⟨_,rfl⟩
 have hlw : layW (setsP l su) (hF N t + st) cnt ((encs R).drop (128 * st)) = []:=layW_nil _ _ _ _ fun i hi=>by
  rw [chk_drop,Nat.add_assoc]
  exact h.ok.now _ (by omega)
 have hlay:=fun q=>lay_any (h.disk.drewN q) (hF N t) (hB N t) st cnt ⟨((encs R).drop (128 * st)).toArray⟩ (by omega) hN (by omega) (by show ((encs R).drop (128 * st)).length <= _;omega)
 rw [show (⟨((encs R).drop (128 * st)).toArray⟩ : ByteArray).data.toList = (encs R).drop (128 * st) from rfl] at hlay
 simp only [hlw,List.append_nil] at hlay
 have hblk:=fun w=>blocksOf_any ⟨((encs R).drop (128 * st)).toArray⟩ (by show ((encs R).drop (128 * st)).length <= _;omega) w
 rw [show (((⟨((encs R).drop (128 * st)).toArray⟩ : ByteArray).size + 127) / 128 : Nat) = cnt from hcnt.symm] at hblk
 have hcv:=fun q=>conv_reads (hM.en.drewN q) c 139 9 Tryz.underlying139 Tryz.underlying9
 have hset:=fun w1 (k : LgR w1 G p d t (hF N t) (hB N t) R vr st A m c ((encs R).drop (128 * st)))=>settle_any k (by omega) (by omega)
 have hEd : ((encs R).drop (128 * st)).drop (128 * (m / 128)) = (encs R).drop (128 * (st + m / 128)):=by rw [List.drop_drop];congr 1;omega
 simp only [hEd] at hset
 have hfin : ∀ w1 F1 G1 A1 m1 c1,Disk w1 F1 d N (setsP l su) [] -> LgW w1 G1 p d t (hF N t) (hB N t) R vr (st + m / 128) A1 m1 c1 ((encs R).drop (128 * (st + m / 128))) -> (∀ b,F1 b -> ¬ G1 b) -> LogS w1 F1 G1 p d N t (st + m / 128) R R.length (setsP l su) [] :=
  fun w1 F1 G1 A1 m1 c1 k1 k2 k3=>⟨k1,⟨vr,A1,m1,c1,k2⟩,k3,h.ok.sync,by omega⟩
 have HG:=Lib.hid hg
 have HM:=Lib.hid hM
 have HB:=Lib.hid hblk
 have HL:=Lib.hid hlay
 have HC:=Lib.hid hcv
 have HS:=Lib.hid hset
 have HF:=Lib.hid hfin
 have HA:=Lib.hid (And.intro h.apart h.disk.lt)
 have hcn : cnt <= 20000:=by omega
 clear hg hM hblk hlay hcv hset hfin h hcnt hlw hlen hxl hfit hstE hEd hF3
 unfold halfV at HL
 generalize (⟨((encs R).drop (128 * st)).toArray⟩ : ByteArray) = S at *
 generalize (encs R).drop (128 * st) = E at *
 generalize st + m / 128 = st' at *
 generalize hF N t = f at *
 generalize hB N t = n at *
 go_enter Tryz.func54,Tryz.ntmps54
 go_wp2_with fail
 refine HG.out.mono ?_
 rintro e w1 ⟨rfl,q,rfl⟩
 have c3:=(HM.out.drewN q).c3
 have c4:=(HM.out.drewN q).c4
 have c5:=(HM.out.drewN q).c5
 have c7:=(HM.out.drewN q).c7
 have c8:=(HM.out.drewN q).c8
 have pl:=(HM.out.drewN q).pl
 have hcv:=HC.out q
 go_wp2_with fail
 go_region_held3 (fun w'=>w'.cell? ⟨p,3,none⟩ = some (.pointer (some ⟨d,0,none⟩)) /\ w'.cell? ⟨p,4,none⟩ = some (.int .i64 (f : Int)) /\ w'.cell? ⟨p,5,none⟩ = some (.int .i64 (n : Int)) /\ w'.cell? ⟨p,7,none⟩ = some (.int .i64 (st : Int)))
  (first | exact ⟨d3,d4,d5,d7⟩ | exact ⟨c3,c4,c5,c7⟩)
  (first
   | (go_at_call 99;refine (HB.out _).mono ?_;rintro e w4 ⟨rfl,rfl⟩)
   | (go_at_call 98;refine (HL.out (q + 1)).mono ?_;rintro e w5 ⟨rfl,F5,hD5,hT5⟩;have H5:=(HM.out.drewN (q + 1)).turn hT5 HA.out.1;have d3:=H5.c3;have d4:=H5.c4;have d5:=H5.c5;have d7:=H5.c7))
 have d1:=H5.c1
 have pl5:=H5.pl
 have hsy:=a_sync hD5 (by omega)
 have H6:=Lib.hid (And.intro hsy (And.intro hT5 H5))
 clear hD5 hT5 H5 c3 c4 c5 c7 c8 d3 d4 d5 d7 hsy
 go_wp2_with fail
 refine H6.out.1.mono ?_
 rintro e w6 ⟨rfl,hD6,hT6⟩
 have hT06:=((Turn.drewN F w (q + 1)).trans H6.out.2.1).trans hT6
 have hM6:=(H6.out.2.2).turn hT6 (apart_left ((Turn.drewN F w (q + 1)).trans H6.out.2.1) HA.out.1 HM.out.lt)
 have HX:=Lib.hid (And.intro hD6 (And.intro hT06 (And.intro hM6 (HS.out _ hM6.toLgR))))
 clear hD6 hT06 hT6 hM6
 go_wp2_with fail
 refine HX.out.2.2.2.mono ?_
 rintro e w7 ⟨rfl,G7,A7,c7,hM7,hT7⟩
 go_wp2_with fail
 go_ret
 have ha6:=apart_left HX.out.2.1 HA.out.1 HM.out.lt
 refine ⟨rfl,F5,G7,st',HF.out _ _ _ _ _ _ (HX.out.1.turn hT7 (fun b hb hg=>ha6 b hb hg)) hM7 (apart_right hT7 ha6 HX.out.1.lt),(HX.out.2.1.left G).trans (hT7.right F5)⟩
end
end
section
open Go Go.RowKit
section
variable {w w' : World} {F G F' : Nat -> Prop} {p d N t st : Nat} {R : List (List UInt8)} {sr : Nat} {su : List ByteArray} {l : List (Nat × ByteArray)}
theorem LogS.len (h : LogS w F G p d N t st R sr su l) : 128 * st + ((encs R).drop (128 * st)).length = (encs R).length:=by
 rw [List.length_drop]
 have:=h.stE
 omega
theorem log_room (h : LogS w F G p d N t st R sr su l) : Calls Tryz.prog 137 #[.pointer (some ⟨p,0,none⟩)] w (Gives (.int .i64 ((128 * hB N t - (encs R).length : Nat) : Int)) w):=by
 obtain ⟨vr,A,m,c,hM⟩:=h.mem
 have hl:=h.len
 have:=room_any hM.toLgR h.stB.2 (by rw [hl];exact h.ok.fit)
 rwa [hl] at this
theorem one_reads (w : World) (r : List UInt8) : Reads (w.alloc (.cells #[.string ⟨r.toArray⟩] 9)) (w.heap.size + 1) 1 (some ⟨w.heap.size,0,none⟩) 1 (strL [r]) :=
 ⟨rfl,fun _=>⟨_,rfl,by simp,fun j u hu=>news_cells w #[.string ⟨r.toArray⟩] 9 j u (by simpa [strL] using hu)⟩⟩
end
end
end Go.Proofs.YtegjjhjgfkcbhaaGreatDoor
