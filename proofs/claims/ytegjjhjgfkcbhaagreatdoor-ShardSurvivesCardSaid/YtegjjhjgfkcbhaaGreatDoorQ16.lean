/- Unhex Frm FPut Take FrmB. Conditions: as each part says. -/
import Derived.Test.YtegjjhjgfkcbhaaGreatDoorQ09
import Derived.Test.YtegjjhjgfkcbhaaGreatDoorQShelf
import Derived.Lib.Bytealg
import Derived.Lib.IndexBytes
set_option linter.unusedVariables false
set_option linter.unusedSimpArgs false
set_option maxRecDepth 100000
set_option maxHeartbeats 16000000
namespace Go.Proofs.YtegjjhjgfkcbhaaGreatDoor
section
open Go Go.RowKit
def hv (c : UInt8) : Int:=Lib.indexByte DIG.data.toList c
theorem hv_fin : ∀ k : Fin 256,hv (UInt8.ofNat k.val) = if 48 <= k.val /\ k.val <= 57 then (k.val : Int) - 48 else if 97 <= k.val /\ k.val <= 102 then (k.val : Int) - 87 else -1:=by decide +kernel
theorem hv_eq (c : UInt8) : hv c = if 48 <= c.toNat /\ c.toNat <= 57 then (c.toNat : Int) - 48 else if 97 <= c.toNat /\ c.toNat <= 102 then (c.toNat : Int) - 87 else -1:=by
 have:=hv_fin ⟨c.toNat,UInt8.toNat_lt c⟩
 simp only [UInt8.ofNat_toNat] at this
 exact this
theorem hv_lt (c : UInt8) : hv c < 16 /\ -1 <= hv c:=by
 rw [hv_eq]
 split
 ·omega
 ·split <;> omega
def uh : List UInt8 -> Nat -> Option Nat
 | [],a=>some a
 | c :: l,a=>if hv c < 0 then none else uh l (16 * a + (hv c).toNat)
def uhRes (l : List UInt8) : Nat × Nat:=match uh l 0 with
 | some n=>(n,0)
 | none=>(0,1)
theorem uh_next {l : List UInt8} {k M : Nat} (hk : k < l.length) (h : uh l 0 = uh (l.drop k) M) : uh l 0 = if hv l[k] < 0 then none else uh (l.drop (k + 1)) (16 * M + (hv l[k]).toNat):=by
 rw [h,List.drop_eq_getElem_cons hk,uh]
theorem or_add (M d : Nat) (hd : d < 16) : 16 * M ||| d = 16 * M + d:=by
 have:=Nat.two_pow_add_eq_or_of_lt (i:=4) hd M
 exact this.symm
theorem pow_step {M k d : Nat} (h : M < 16 ^ k) (hd : d < 16) : 16 * M + d < 16 ^ (k + 1):=by
 rw [Nat.pow_succ]
 omega
theorem pow_small {M k : Nat} (h : M < 16 ^ k) (hk : k < 6) : M < 1048576:=by
 have : 16 ^ k <= 16 ^ 5:=Nat.pow_le_pow_right (by omega) (by omega)
 omega
def UPost (l : List UInt8) (w : World) (e : Ending) (w' : World) : Prop:=e = .returned (.tuple #[.int .i64 ((uhRes l).1 : Int),.int .i64 ((uhRes l).2 : Int)]) /\ w = w'
theorem unhex_six (s : ByteArray) (h6 : s.size = 6) (w : World) : Calls Tryz.prog 187 #[.string s] w (UPost s.data.toList w):=by
 have hz : (s.size : Int) = 6:=by omega
 have H6:=Lib.hid h6
 have hl : s.data.toList.length = 6:=by simpa using h6
 have HL:=Lib.hid hl
 clear h6 hl
 go_enter Tryz.func187,Tryz.ntmps187
 go_wp2_with fail
 clear hz
 go_loopw [4,10] (fun n i wr=>∃ k M : Nat,k <= 6 /\ i = .int .i64 (k : Int) /\ n = .int .i64 (M : Int) /\ Hid (uh s.data.toList 0 = uh (s.data.toList.drop k) M) /\ Hid (M < 16 ^ k) /\ w = wr) (fun _ i _=>6 - (intOf i).toNat)
 case atStart=>exact ⟨0,0,by omega,rfl,rfl,Lib.hid rfl,Lib.hid (by decide),rfl⟩
 case round =>
  obtain ⟨k,M,hk,rfl,rfl,HU,HM,rfl⟩:=hrel
  by_cases hk6 : k < 6
  ·have hkz : (k : Int) < 6:=by omega
   have hks : (k : Int) < (s.size : Int):=by have:=H6.out;omega
   have hkn : k < s.size:=by have:=H6.out;omega
   have hnx:=uh_next (by rw [HL.out];exact hk6) HU.out
   have hM:=pow_small HM.out hk6
   have hbt : (s[k]'hkn).toNat < 256:=UInt8.toNat_lt _
   have hget : s.data.toList[k]'(by rw [HL.out];exact hk6) = s[k]'hkn:=by simp;rfl
   rw [hget] at hnx
   have hcall:=fun w=>(Tryz.strings_IndexByte DIG ((s[k]'hkn).toNat : Int) w).mono (P:=Tryz.prog) (fun e w' h=>show e = .returned (.int .i64 (hv (s[k]'hkn))) /\ w = w' by
    refine ⟨?_,h.2.symm⟩
    rw [h.1]
    simp [hv])
   have hvl:=hv_lt (s[k]'hkn)
   have HC:=Lib.hid hcall
   have HN:=Lib.hid hnx
   generalize hv (s[k]'hkn) = V at *
   clear hget hcall hnx
   unfold DIG at HC
   by_cases hneg : V < 0
   ·have hres : uhRes s.data.toList = (0,1):=by unfold uhRes;rw [HN.out,if_pos hneg]
    have HRES:=Lib.hid hres
    clear hres
    go_wp2_with fail
    refine (HC.out w).mono ?_
    rintro e w1 ⟨rfl,rfl⟩
    go_wp2_with fail
    go_ret2
    exact ⟨by rw [HRES.out];rfl,rfl⟩
   ·obtain ⟨d,rfl⟩ : ∃ d : Nat,V = (d : Int):=⟨V.toNat,by omega⟩
    have hd : d < 16:=by omega
    have hor:=i64_or_nat (16 * M) d (by omega) (by omega)
    rw [or_add M d hd] at hor
    have hor2 : bits .or .i64 ((M : Int) * 16) (d : Int) = ((16 * M + d : Nat) : Int):=by
     rw [show (M : Int) * 16 = ((16 * M : Nat) : Int) by omega]
     exact hor
    have hnx:=HN.out
    rw [if_neg hneg,show ((d : Int)).toNat = d from rfl] at hnx
    have HU2:=Lib.hid hnx
    have hps:=Lib.hid (pow_step HM.out hd)
    obtain ⟨M2,hM2⟩ : ∃ M2 : Nat,M2 = 16 * M + d:=⟨_,rfl⟩
    rw [<- hM2] at hor2 HU2 hps
    clear hnx hor hM2 hneg
    go_wp2_with fail
    refine (HC.out w).mono ?_
    rintro e w1 ⟨rfl,rfl⟩
    go_wp2_with fail
    exact ⟨⟨k + 1,M2,by omega,by go_num,rfl,HU2,hps,by trivial⟩,by simp [intOf];omega⟩
  ·obtain rfl : k = 6:=by omega
   have hu:=HU.out
   rw [List.drop_eq_nil_of_le (by rw [HL.out];exact Nat.le_refl _),uh] at hu
   have hres : uhRes s.data.toList = (M,0):=by unfold uhRes;rw [hu]
   have HRES:=Lib.hid hres
   clear hu hres
   go_wp2_with fail
   go_ret2
   exact ⟨by rw [HRES.out];rfl,rfl⟩
theorem hv_hexD : ∀ k : Fin 16,hv (hexD k.val) = (k.val : Int):=by decide +kernel
theorem uh_digit (k : Nat) (hk : k < 16) (l : List UInt8) (a : Nat) : uh (hexD k :: l) a = uh l (16 * a + k):=by
 have h:=hv_hexD ⟨k,hk⟩
 simp only at h
 rw [uh,h,if_neg (by omega)]
 rfl
theorem uh_hexL (N : Nat) (hN : N < 16777216) : uhRes (hexL N) = (N,0):=by
 have h : uh (hexL N) 0 = some N:=by
  unfold hexL
  rw [uh_digit _ (by omega),uh_digit _ (by omega),uh_digit _ (by omega),uh_digit _ (by omega),uh_digit _ (by omega),uh_digit _ (by omega),uh]
  congr 1
  omega
 unfold uhRes
 rw [h]
end
section
open Go Go.RowKit
def sm (l : List UInt8) : Nat:=(crcL 0xb704ce#24 l).toNat
theorem sm_lt (l : List UInt8) : sm l < 16777216:=(crcL 0xb704ce#24 l).isLt
def enc (l : List UInt8) : List UInt8:=hexL l.length ++ (hexL (sm l) ++ (124 :: (l ++ [10])))
def encS (s : ByteArray) : ByteArray:=⟨(enc s.data.toList).toArray⟩
theorem hexL_len (N : Nat) : (hexL N).length = 6:=rfl
theorem enc_len (l : List UInt8) : (enc l).length = l.length + 14:=by
 simp only [enc,List.length_append,hexL_len,List.length_cons,List.length_nil]
 omega
theorem size_list (s : ByteArray) : s.data.toList.length = s.size:=by simp
theorem bytes_ext {s : ByteArray} {l : List UInt8} (h : s.data.toList = l) : s = ⟨l.toArray⟩:=by rw [<- h]
theorem encS_list (s : ByteArray) : (encS s).data.toList = enc s.data.toList:=rfl
theorem encS_size (s : ByteArray) : (encS s).size = s.size + 14:=by
 rw [<- size_list,encS_list,enc_len,size_list]
theorem encS_eq (s : ByteArray) : ((((⟨(hexL s.size).toArray⟩ : ByteArray) ++ ⟨(hexL (crcS s).toNat).toArray⟩) ++ ⟨#[124]⟩) ++ s) ++ ⟨#[10]⟩ = encS s:=by
 refine bytes_ext ?_
 simp only [ByteArray.data_append,Array.toList_append,enc,size_list,List.append_assoc]
 rfl
def nL (l : List UInt8) : Nat × Nat:=uhRes (l.take 6)
def cL (l : List UInt8) : Nat × Nat:=uhRes ((l.drop 6).take 6)
def headOk (l : List UInt8) : Prop:=(nL l).2 = 0 /\ (nL l).1 <= 262144 /\ (cL l).2 = 0 /\ l.getD 12 0 = 124
instance (l : List UInt8) : Decidable (headOk l):=inferInstanceAs (Decidable (_ /\ _))
def tkL (l : List UInt8) : List UInt8 × Nat × Nat :=
 if l.length < 13 then ([],0,21)
 else if ¬ headOk l then ([],0,40)
 else if l.length < 14 + (nL l).1 then ([],0,21)
 else if l.getD (13 + (nL l).1) 0 ≠ 10 then ([],0,40)
 else if sm ((l.drop 13).take (nL l).1) ≠ (cL l).1 then ([],0,41)
 else ((l.drop 13).take (nL l).1,14 + (nL l).1,0)
def tkV (r : List UInt8 × Nat × Nat) : Value:=.tuple #[.string ⟨r.1.toArray⟩,.int .i64 (r.2.1 : Int),.int .i64 (r.2.2 : Int)]
def allF (l : List UInt8) : Nat -> Nat -> List (List UInt8) × Nat
 | 0,at_=>([],at_)
 | f + 1,at_=>if (tkL (l.drop at_)).2.2 = 0 then ((tkL (l.drop at_)).1 :: (allF l f (at_ + (tkL (l.drop at_)).2.1)).1,(allF l f (at_ + (tkL (l.drop at_)).2.1)).2) else ([],at_)
def alls (l : List UInt8) : List (List UInt8) × Nat:=allF l (l.length + 1) 0
theorem allF_ok {l : List UInt8} {f at_ n : Nat} {t : List UInt8} (h : tkL (l.drop at_) = (t,n,0)) : allF l (f + 1) at_ = (t :: (allF l f (at_ + n)).1,(allF l f (at_ + n)).2):=by
 rw [allF,h,if_pos rfl]
theorem allF_no {l : List UInt8} {f at_ : Nat} (h : (tkL (l.drop at_)).2.2 ≠ 0) : allF l f at_ = ([],at_):=by
 cases f with
 | zero=>rfl
 | succ f=>rw [allF,if_neg h]
theorem tkL_nil : (tkL []).2.2 ≠ 0:=by decide
theorem tkL_ok {l t : List UInt8} {n : Nat} (h : tkL l = (t,n,0)) : 13 <= l.length /\ headOk l /\ n = 14 + (nL l).1 /\ n <= l.length /\ l.getD (13 + (nL l).1) 0 = 10 /\ t = (l.drop 13).take (nL l).1 /\ sm t = (cL l).1:=by
 unfold tkL at h
 by_cases h1 : l.length < 13
 ·rw [if_pos h1] at h;simp at h
 rw [if_neg h1] at h
 by_cases h2 : headOk l
 ·rw [if_neg (not_not_intro h2)] at h
  by_cases h3 : l.length < 14 + (nL l).1
  ·rw [if_pos h3] at h;simp at h
  rw [if_neg h3] at h
  by_cases h4 : l.getD (13 + (nL l).1) 0 = 10
  ·rw [if_neg (not_not_intro h4)] at h
   by_cases h5 : sm ((l.drop 13).take (nL l).1) = (cL l).1
   ·rw [if_neg (not_not_intro h5)] at h
    simp only [Prod.mk.injEq] at h
    obtain ⟨rfl,rfl,_⟩:=h
    exact ⟨by omega,h2,rfl,by omega,h4,rfl,h5⟩
   ·rw [if_pos h5] at h;simp at h
  ·rw [if_pos h4] at h;simp at h
 ·rw [if_pos h2] at h;simp at h
theorem tkL_pos {l t : List UInt8} {n : Nat} (h : tkL l = (t,n,0)) : 14 <= n /\ n <= l.length:=by
 obtain ⟨_,_,h3,h4,_⟩:=tkL_ok h
 omega
end
section
open Go Go.RowKit
theorem below_then' {w w1 w2 : World} (h : Below w.heap.size w w1) (k : Below w1.heap.size w1 w2) : Below w.heap.size w w2:=h.trans (k.mono h.size)
def putV (s : ByteArray) : Value:=if s.size <= 262144 then .tuple #[.string (encS s),.int .i64 0] else .tuple #[.string ⟨#[]⟩,.int .i64 23]
theorem put_any (s : ByteArray) (hs : s.size <= 300000) (w : World) (hT : TabW w) : Calls Tryz.prog 124 #[.string s] w fun e w'=>e = .returned (putV s) /\ Below w.heap.size w w':=by
 unfold putV
 by_cases hl : s.size <= 262144
 ·rw [if_pos hl]
  have hz : ¬ (262144 : Int) < (s.size : Int):=by omega
  have H1:=Lib.hid (hex_ok s.size (by omega))
  have H2:=Lib.hid (fun w hT=>sum_any s w hs hT)
  have H3:=Lib.hid (hex_ok (crcS s).toNat (crcS s).isLt)
  have HE:=Lib.hid (encS_eq s)
  have hA : (⟨(hexL s.size).toArray⟩ : ByteArray).size = 6:=rfl
  have hB : (⟨(hexL (crcS s).toNat).toArray⟩ : ByteArray).size = 6:=rfl
  have HT:=Lib.hid hT
  clear hT hl
  generalize (⟨(hexL s.size).toArray⟩ : ByteArray) = A at *
  generalize (⟨(hexL (crcS s).toNat).toArray⟩ : ByteArray) = B at *
  have h1 : (A ++ B).size = 12:=by rw [ByteArray.size_append];omega
  have h2 : (A ++ B ++ ⟨#[124]⟩ : ByteArray).size = 13:=by rw [ByteArray.size_append,h1];rfl
  have h3 : (A ++ B ++ ⟨#[124]⟩ ++ s : ByteArray).size = 13 + s.size:=by rw [ByteArray.size_append,h2]
  go_enter Tryz.func124,Tryz.ntmps124
  go_wp2_with fail
  refine (H1.out w).mono ?_
  rintro e w1 ⟨rfl,hb1⟩
  go_wp2_with fail
  refine (H2.out w1 (HT.out.below hb1 HT.out.size)).mono ?_
  rintro e w2 ⟨rfl,rfl⟩
  go_wp2_with fail
  refine (H3.out w1).mono ?_
  rintro e w2 ⟨rfl,hb2⟩
  go_wp2_with fail
  go_ret2
  rw [HE.out]
  exact ⟨rfl,below_then' hb1 hb2⟩
 ·rw [if_neg hl]
  have hz : (262144 : Int) < (s.size : Int):=by omega
  clear hl hT
  go_enter Tryz.func124,Tryz.ntmps124
  go_wp2_with fail
  go_ret2
  exact ⟨rfl,Below.refl _ _⟩
end
section
open Go Go.RowKit
theorem cut_list (s : ByteArray) (a b : Nat) : (s.extract a b).data.toList = (s.data.toList.drop a).take (b - a):=Lib.extract_data s a b
theorem byte_getD (s : ByteArray) (k : Nat) (hk : k < s.size) : s.data.toList.getD k 0 = s[k]'hk:=by
 rw [List.getD_eq_getElem?_getD,List.getElem?_eq_getElem (by simpa using hk)]
 rfl
def rhB (n c : Nat) : Bool -> Value
 | true=>.tuple #[.int .i64 (n : Int),.int .i64 (c : Int),.int .i64 0]
 | false=>.tuple #[.int .i64 0,.int .i64 0,.int .i64 40]
def rhV (l : List UInt8) : Value:=rhB (nL l).1 (cL l).1 (decide (headOk l))
theorem byte_ne {b c : UInt8} (h : ¬ b = c) : ((b.toNat : Int) != (c.toNat : Int)) = true:=by
 rw [bne_iff_ne]
 intro he
 exact h (UInt8.toNat_inj.1 (by omega))
theorem readHead_any (s : ByteArray) (h13 : s.size = 13) (w : World) : Calls Tryz.prog 164 #[.string s] w fun e w'=>e = .returned (rhV s.data.toList) /\ w = w':=by
 have hx1 : (s.extract 0 6).size = 6:=by rw [ByteArray.size_extract];omega
 have hx2 : (s.extract 6 12).size = 6:=by rw [ByteArray.size_extract];omega
 have k1:=fun w=>unhex_six (s.extract 0 6) hx1 w
 have k2:=fun w=>unhex_six (s.extract 6 12) hx2 w
 unfold UPost at k1 k2
 rw [cut_list] at k1 k2
 have hg:=byte_getD s 12 (by omega)
 have hz : (s.size : Int) = 13:=by omega
 have h12 : 12 < s.size:=by omega
 have h6 : 6 <= s.size:=by omega
 have h12' : 12 <= s.size:=by omega
 unfold rhV
 have hO : headOk s.data.toList ↔ (nL s.data.toList).2 = 0 /\ (nL s.data.toList).1 <= 262144 /\ (cL s.data.toList).2 = 0 /\ s[12]'h12 = 124:=by
  unfold headOk
  rw [hg]
 have hT : ∀ b : Bool,(b = true ↔ (nL s.data.toList).2 = 0 /\ (nL s.data.toList).1 <= 262144 /\ (cL s.data.toList).2 = 0 /\ s[12]'h12 = 124) -> decide (headOk s.data.toList) = b:=by
  intro b hb
  rw [<- hO] at hb
  cases b with
  | true=>exact decide_eq_true (hb.1 rfl)
  | false=>exact decide_eq_false (fun h=>by simp at hb;exact hb h)
 generalize decide (headOk s.data.toList) = D at *
 clear hO
 change ∀ w,Calls Tryz.prog 187 #[.string (s.extract 0 6)] w fun e w'=>e = .returned (.tuple #[.int .i64 ((nL s.data.toList).1 : Int),.int .i64 ((nL s.data.toList).2 : Int)]) /\ w = w' at k1
 change ∀ w,Calls Tryz.prog 187 #[.string (s.extract 6 12)] w fun e w'=>e = .returned (.tuple #[.int .i64 ((cL s.data.toList).1 : Int),.int .i64 ((cL s.data.toList).2 : Int)]) /\ w = w' at k2
 generalize nL s.data.toList = N at *
 generalize cL s.data.toList = C at *
 obtain ⟨n,e1⟩:=N
 obtain ⟨c,e2⟩:=C
 have K1:=Lib.hid k1
 have K2:=Lib.hid k2
 clear k1 k2 hx1 hx2 hg
 have HT:=Lib.hid hT
 clear hT
 by_cases a1 : e1 = 0
 ·subst a1
  by_cases a2 : n <= 262144
  ·have hn : ¬ (262144 : Int) < (n : Int):=by omega
   by_cases a3 : e2 = 0
   ·subst a3
    by_cases a4 : s[12] = 124
    ·rw [HT.out true (iff_of_true rfl ⟨rfl,a2,rfl,a4⟩)]
     have hb : (s[12].toNat : Int) = 124:=by rw [a4];rfl
     clear a2 a4
     go_enter Tryz.func164,Tryz.ntmps164
     go_wp2_with fail
     refine (K1.out w).mono ?_
     rintro e w1 ⟨rfl,rfl⟩
     go_wp2_with fail
     refine (K2.out w).mono ?_
     rintro e w1 ⟨rfl,rfl⟩
     go_wp2_with fail
     go_ret3
     exact ⟨rfl,rfl⟩
    ·rw [HT.out false (iff_of_false (by simp) (fun h=>a4 h.2.2.2))]
     have hb : ((s[12].toNat : Int) != 124) = true:=byte_ne (c:=124) a4
     clear a2 a4
     go_enter Tryz.func164,Tryz.ntmps164
     go_wp2_with fail
     refine (K1.out w).mono ?_
     rintro e w1 ⟨rfl,rfl⟩
     go_wp2_with fail
     refine (K2.out w).mono ?_
     rintro e w1 ⟨rfl,rfl⟩
     go_wp2_with fail
     go_ret3
     exact ⟨rfl,rfl⟩
   ·rw [HT.out false (iff_of_false (by simp) (fun h=>a3 h.2.2.1))]
    have hb : ((e2 : Int) != 0) = true:=by rw [bne_iff_ne];omega
    clear a2 a3
    go_enter Tryz.func164,Tryz.ntmps164
    go_wp2_with fail
    refine (K1.out w).mono ?_
    rintro e w1 ⟨rfl,rfl⟩
    go_wp2_with fail
    refine (K2.out w).mono ?_
    rintro e w1 ⟨rfl,rfl⟩
    go_wp2_with fail
    go_ret3
    exact ⟨rfl,rfl⟩
  ·rw [HT.out false (iff_of_false (by simp) (fun h=>a2 h.2.1))]
   have hn : (262144 : Int) < (n : Int):=by omega
   clear a2
   go_enter Tryz.func164,Tryz.ntmps164
   go_wp2_with fail
   refine (K1.out w).mono ?_
   rintro e w1 ⟨rfl,rfl⟩
   go_wp2_with fail
   go_ret3
   exact ⟨rfl,rfl⟩
 ·rw [HT.out false (iff_of_false (by simp) (fun h=>a1 h.1))]
  have hb : ((e1 : Int) != 0) = true:=by rw [bne_iff_ne];omega
  clear a1
  go_enter Tryz.func164,Tryz.ntmps164
  go_wp2_with fail
  refine (K1.out w).mono ?_
  rintro e w1 ⟨rfl,rfl⟩
  go_wp2_with fail
  go_ret3
  exact ⟨rfl,rfl⟩
theorem fclone_any (s : ByteArray) (w : World) (hs : s.size <= 300000) : Calls Tryz.prog 138 #[.string s] w fun e w'=>e = .returned (.string s) /\ Below w.heap.size w w':=by
 go_enter Tryz.func138,Tryz.ntmps138
 go_wp2_with (go_at_call 172;refine (Tryz.stringslite_Clone _ _ (by omega)).mono ?_;rintro e w1 ⟨rfl,hb1⟩)
 go_ret
 exact ⟨rfl,hb1⟩
theorem headOk_take (l : List UInt8) : nL (l.take 13) = nL l /\ cL (l.take 13) = cL l /\ (headOk (l.take 13) ↔ headOk l):=by
 have h1 : nL (l.take 13) = nL l:=by unfold nL;rw [List.take_take];rfl
 have h2 : cL (l.take 13) = cL l:=by unfold cL;rw [List.drop_take,List.take_take];rfl
 refine ⟨h1,h2,?_⟩
 unfold headOk
 rw [h1,h2]
 have : (l.take 13).getD 12 0 = l.getD 12 0:=by
  rw [List.getD_eq_getElem?_getD,List.getD_eq_getElem?_getD,List.getElem?_take,if_pos (by omega)]
 rw [this]
theorem rhV_take (l : List UInt8) : rhV (l.take 13) = rhV l:=by
 obtain ⟨h1,h2,h3⟩:=headOk_take l
 have : decide (headOk (l.take 13)) = decide (headOk l):=by rw [decide_eq_decide];exact h3
 unfold rhV
 rw [h1,h2,this]
theorem rhV_ok {l : List UInt8} (h : headOk l) : rhV l = .tuple #[.int .i64 ((nL l).1 : Int),.int .i64 ((cL l).1 : Int),.int .i64 0]:=by
 unfold rhV
 rw [decide_eq_true h]
 rfl
theorem rhV_no {l : List UInt8} (h : ¬ headOk l) : rhV l = .tuple #[.int .i64 0,.int .i64 0,.int .i64 40]:=by
 unfold rhV
 rw [decide_eq_false h]
 rfl
theorem tk_short {l : List UInt8} (h : l.length < 13) : tkL l = ([],0,21):=by unfold tkL;rw [if_pos h]
theorem tk_head {l : List UInt8} (h : ¬ l.length < 13) (h2 : ¬ headOk l) : tkL l = ([],0,40):=by unfold tkL;rw [if_neg h,if_pos h2]
theorem tk_cut {l : List UInt8} (h : ¬ l.length < 13) (h2 : headOk l) (h3 : l.length < 14 + (nL l).1) : tkL l = ([],0,21):=by unfold tkL;rw [if_neg h,if_neg (not_not_intro h2),if_pos h3]
theorem tk_end {l : List UInt8} (h : ¬ l.length < 13) (h2 : headOk l) (h3 : ¬ l.length < 14 + (nL l).1) (h4 : ¬ l.getD (13 + (nL l).1) 0 = 10) : tkL l = ([],0,40):=by unfold tkL;rw [if_neg h,if_neg (not_not_intro h2),if_neg h3,if_pos h4]
theorem tk_sum {l : List UInt8} (h : ¬ l.length < 13) (h2 : headOk l) (h3 : ¬ l.length < 14 + (nL l).1) (h4 : l.getD (13 + (nL l).1) 0 = 10) (h5 : ¬ sm ((l.drop 13).take (nL l).1) = (cL l).1) : tkL l = ([],0,41):=by unfold tkL;rw [if_neg h,if_neg (not_not_intro h2),if_neg h3,if_neg (not_not_intro h4),if_pos h5]
theorem tk_fine {l : List UInt8} (h : ¬ l.length < 13) (h2 : headOk l) (h3 : ¬ l.length < 14 + (nL l).1) (h4 : l.getD (13 + (nL l).1) 0 = 10) (h5 : sm ((l.drop 13).take (nL l).1) = (cL l).1) : tkL l = ((l.drop 13).take (nL l).1,14 + (nL l).1,0):=by unfold tkL;rw [if_neg h,if_neg (not_not_intro h2),if_neg h3,if_neg (not_not_intro h4),if_neg (not_not_intro h5)]
theorem nat_ne {a b : Nat} (h : ¬ a = b) : ((a : Int) != (b : Int)) = true:=by rw [bne_iff_ne];omega
theorem cut_cut (s : ByteArray) (n : Nat) (h : 13 + n <= s.size) : (s.extract 13 s.size).extract 0 n = s.extract 13 (13 + n):=by
 refine ByteArray.ext (Array.ext' ?_)
 rw [cut_list,Lib.extract_to_end,cut_list,List.drop_zero,show 13 + n - 13 = n - 0 by omega]
theorem tail_getD (s : ByteArray) (n : Nat) (h : 13 + n < s.size) (h2 : n < (s.extract 13 s.size).size) : s.data.toList.getD (13 + n) 0 = (s.extract 13 s.size)[n]'h2:=by
 rw [<- byte_getD (s.extract 13 s.size) n h2,Lib.extract_to_end,List.getD_eq_getElem?_getD,List.getD_eq_getElem?_getD,List.getElem?_drop]
theorem take_any (s : ByteArray) (hs : s.size <= 300000) (w : World) (hT : TabW w) : Calls Tryz.prog 125 #[.string s] w fun e w'=>e = .returned (tkV (tkL s.data.toList)) /\ Below w.heap.size w w':=by
 have hl : s.data.toList.length = s.size:=size_list s
 by_cases a0 : s.size < 13
 ·rw [tk_short (by omega)]
  have hz : (s.size : Int) < 13:=by omega
  clear hT
  go_enter Tryz.func125,Tryz.ntmps125
  go_wp2_with fail
  go_ret3
  exact ⟨rfl,Below.refl _ _⟩
 have hz : ¬ (s.size : Int) < 13:=by omega
 have h13 : 13 <= s.size:=by omega
 have b0 : ¬ s.data.toList.length < 13:=by omega
 have k1:=fun w=>readHead_any (s.extract 0 13) (by rw [ByteArray.size_extract];omega) w
 rw [cut_list,List.drop_zero,rhV_take] at k1
 by_cases a1 : headOk s.data.toList
 ·rw [rhV_ok a1] at k1
  have K1:=Lib.hid k1
  have hn:=a1.2.1
  have A1:=Lib.hid a1
  have HT:=Lib.hid hT
  clear k1 hT a1
  have hrs : (s.extract 13 s.size).size = s.size - 13:=by rw [ByteArray.size_extract];omega
  by_cases a2 : s.size < 14 + (nL s.data.toList).1
  ·rw [tk_cut b0 A1.out (by omega)]
   clear b0
   generalize (nL s.data.toList).1 = n at *
   generalize (cL s.data.toList).1 = c at *
   have h2 : ((s.size - 13 : Nat) : Int) < (n : Int) + 1:=by omega
   clear a2 hrs
   go_enter Tryz.func125,Tryz.ntmps125
   go_wp2_with fail
   refine (K1.out w).mono ?_
   rintro e w1 ⟨rfl,rfl⟩
   go_wp2_with fail
   go_ret3
   exact ⟨rfl,Below.refl _ _⟩
  ·have b2 : ¬ s.data.toList.length < 14 + (nL s.data.toList).1:=by omega
   have hlt : (nL s.data.toList).1 < (s.extract 13 s.size).size:=by omega
   have hg:=tail_getD s (nL s.data.toList).1 (by omega) hlt
   by_cases a3 : s.data.toList.getD (13 + (nL s.data.toList).1) 0 = 10
   ·have hcc:=cut_cut s (nL s.data.toList).1 (by omega)
    have hcl : (s.extract 13 (13 + (nL s.data.toList).1)).data.toList = (s.data.toList.drop 13).take (nL s.data.toList).1:=by
     rw [cut_list]
     congr 1
     omega
    have hcs : (s.extract 13 (13 + (nL s.data.toList).1)).size <= 300000:=by rw [ByteArray.size_extract];omega
    have HSUM:=Lib.hid (fun w hT=>sum_any (s.extract 13 (13 + (nL s.data.toList).1)) w hcs hT)
    have hcrc : (crcS (s.extract 13 (13 + (nL s.data.toList).1))).toNat = sm ((s.data.toList.drop 13).take (nL s.data.toList).1):=by
     unfold crcS sm
     rw [hcl]
    rw [hcrc] at HSUM
    have HCL:=Lib.hid (fun w=>fclone_any (s.extract 13 (13 + (nL s.data.toList).1)) w hcs)
    have hlst:=bytes_ext hcl
    rw [hg] at a3
    have hby : (((s.extract 13 s.size)[(nL s.data.toList).1]'hlt).toNat : Int) = 10:=by rw [a3];rfl
    by_cases a4 : sm ((s.data.toList.drop 13).take (nL s.data.toList).1) = (cL s.data.toList).1
    ·rw [tk_fine b0 A1.out b2 (hg.trans a3) a4]
     rw [a4] at HSUM
     have HCC:=Lib.hid hcc
     have HLST:=Lib.hid hlst
     clear b0 b2 a3 a4 hcrc hcl hcs hg hcc hlst
     generalize (s.data.toList.drop 13).take (nL s.data.toList).1 = tl at *
     generalize (nL s.data.toList).1 = n at *
     generalize (cL s.data.toList).1 = c at *
     generalize s.extract 13 (13 + n) = X at *
     have h2 : ¬ ((s.size - 13 : Nat) : Int) < (n : Int) + 1:=by omega
     have h4 : (n : Int) < ((s.size - 13 : Nat) : Int):=by omega
     have h5 : n <= s.size - 13:=by omega
     have h3 : n <= (s.extract 13 s.size).size:=by omega
     clear a2 hrs
     go_enter Tryz.func125,Tryz.ntmps125
     go_wp2_with fail
     refine (K1.out w).mono ?_
     rintro e w1 ⟨rfl,rfl⟩
     go_wp2_with fail
     rw [HCC.out]
     refine (HSUM.out w HT.out).mono ?_
     rintro e w1 ⟨rfl,rfl⟩
     go_wp2_with fail
     rw [HCC.out]
     refine (HCL.out w).mono ?_
     rintro e w1 ⟨rfl,hb1⟩
     go_wp2_with fail
     go_ret3
     refine ⟨?_,hb1⟩
     unfold tkV
     rw [HLST.out]
     have e14 : (13 : Int) + (n : Int) + 1 = ((14 + n : Nat) : Int):=by omega
     rw [e14]
     rfl
    ·rw [tk_sum b0 A1.out b2 (hg.trans a3) a4]
     have hne:=nat_ne a4
     have HCC:=Lib.hid hcc
     clear b0 b2 a3 a4 hcrc hcl hcs hg hcc hlst
     generalize sm ((s.data.toList.drop 13).take (nL s.data.toList).1) = z at *
     generalize (nL s.data.toList).1 = n at *
     generalize (cL s.data.toList).1 = c at *
     generalize s.extract 13 (13 + n) = X at *
     have h2 : ¬ ((s.size - 13 : Nat) : Int) < (n : Int) + 1:=by omega
     have h4 : (n : Int) < ((s.size - 13 : Nat) : Int):=by omega
     have h5 : n <= s.size - 13:=by omega
     have h3 : n <= (s.extract 13 s.size).size:=by omega
     clear a2 hrs
     go_enter Tryz.func125,Tryz.ntmps125
     go_wp2_with fail
     refine (K1.out w).mono ?_
     rintro e w1 ⟨rfl,rfl⟩
     go_wp2_with fail
     rw [HCC.out]
     refine (HSUM.out w HT.out).mono ?_
     rintro e w1 ⟨rfl,rfl⟩
     go_wp2_with fail
     go_ret3
     exact ⟨rfl,Below.refl _ _⟩
   ·rw [tk_end b0 A1.out b2 a3]
    rw [hg] at a3
    have hby : ((((s.extract 13 s.size)[(nL s.data.toList).1]'hlt).toNat : Int) != 10) = true:=byte_ne (c:=10) a3
    clear b0 b2 a3 hg
    generalize (nL s.data.toList).1 = n at *
    generalize (cL s.data.toList).1 = c at *
    have h2 : ¬ ((s.size - 13 : Nat) : Int) < (n : Int) + 1:=by omega
    have h4 : (n : Int) < ((s.size - 13 : Nat) : Int):=by omega
    have h5 : n <= s.size - 13:=by omega
    clear a2 hrs
    go_enter Tryz.func125,Tryz.ntmps125
    go_wp2_with fail
    refine (K1.out w).mono ?_
    rintro e w1 ⟨rfl,rfl⟩
    go_wp2_with fail
    go_ret3
    exact ⟨rfl,Below.refl _ _⟩
 ·rw [tk_head b0 a1]
  rw [rhV_no a1] at k1
  have K1:=Lib.hid k1
  clear k1 hT
  go_enter Tryz.func125,Tryz.ntmps125
  go_wp2_with fail
  refine (K1.out w).mono ?_
  rintro e w1 ⟨rfl,rfl⟩
  go_wp2_with fail
  go_ret3
  exact ⟨rfl,Below.refl _ _⟩
end
section
open Go Go.RowKit
def fr (n c : Nat) (r : List UInt8) : List UInt8:=hexL n ++ (hexL c ++ (124 :: r))
theorem fr_len (n c : Nat) (r : List UInt8) : (fr n c r).length = 13 + r.length:=by
 simp only [fr,List.length_append,hexL_len,List.length_cons]
 omega
theorem fr_take6 (n c : Nat) (r : List UInt8) : (fr n c r).take 6 = hexL n:=by
 unfold fr
 rw [List.take_append_of_le_length (by rw [hexL_len];exact Nat.le_refl _),List.take_of_length_le (by rw [hexL_len];exact Nat.le_refl _)]
theorem fr_drop6 (n c : Nat) (r : List UInt8) : (fr n c r).drop 6 = hexL c ++ (124 :: r):=by
 unfold fr
 exact List.drop_left' (hexL_len n)
theorem fr_mid (n c : Nat) (r : List UInt8) : ((fr n c r).drop 6).take 6 = hexL c:=by
 rw [fr_drop6,List.take_append_of_le_length (by rw [hexL_len];exact Nat.le_refl _),List.take_of_length_le (by rw [hexL_len];exact Nat.le_refl _)]
theorem fr_drop12 (n c : Nat) (r : List UInt8) : (fr n c r).drop 12 = 124 :: r:=by
 have : (fr n c r).drop 12 = ((fr n c r).drop 6).drop 6:=by rw [List.drop_drop]
 rw [this,fr_drop6]
 exact List.drop_left' (hexL_len c)
theorem fr_drop13 (n c : Nat) (r : List UInt8) : (fr n c r).drop 13 = r:=by
 have : (fr n c r).drop 13 = ((fr n c r).drop 12).drop 1:=by rw [List.drop_drop]
 rw [this,fr_drop12]
 rfl
theorem fr_bar (n c : Nat) (r : List UInt8) : (fr n c r).getD 12 0 = 124:=by
 have h : (fr n c r)[12]? = ((fr n c r).drop 12)[0]?:=by rw [List.getElem?_drop]
 rw [List.getD_eq_getElem?_getD,h,fr_drop12]
 rfl
theorem fr_at (n c j : Nat) (r : List UInt8) : (fr n c r).getD (13 + j) 0 = r.getD j 0:=by
 have h : (fr n c r)[13 + j]? = ((fr n c r).drop 13)[j]?:=by rw [List.getElem?_drop]
 rw [List.getD_eq_getElem?_getD,h,fr_drop13,List.getD_eq_getElem?_getD]
theorem fr_nL (n c : Nat) (r : List UInt8) (hn : n < 16777216) : nL (fr n c r) = (n,0):=by
 unfold nL
 rw [fr_take6,uh_hexL n hn]
theorem fr_cL (n c : Nat) (r : List UInt8) (hc : c < 16777216) : cL (fr n c r) = (c,0):=by
 unfold cL
 rw [fr_mid,uh_hexL c hc]
theorem fr_head (n c : Nat) (r : List UInt8) (hn : n <= 262144) (hc : c < 16777216) : headOk (fr n c r):=by
 unfold headOk
 rw [fr_nL n c r (by omega),fr_cL n c r hc,fr_bar]
 exact ⟨rfl,hn,rfl,rfl⟩
theorem enc_fr (l : List UInt8) : enc l = fr l.length (sm l) (l ++ [10]):=rfl
theorem enc_app (l r : List UInt8) : enc l ++ r = fr l.length (sm l) (l ++ 10 :: r):=by
 simp only [enc,fr,List.append_assoc,List.cons_append,List.nil_append]
theorem tk_enc (l r : List UInt8) (h : l.length <= 262144) : tkL (enc l ++ r) = (l,l.length + 14,0):=by
 rw [enc_app]
 have e1:=fr_nL l.length (sm l) (l ++ 10 :: r) (by omega)
 have e2:=fr_cL l.length (sm l) (l ++ 10 :: r) (sm_lt l)
 have e3 : ((fr l.length (sm l) (l ++ 10 :: r)).drop 13).take l.length = l:=by rw [fr_drop13];simp
 have hf:=fr_len l.length (sm l) (l ++ 10 :: r)
 rw [List.length_append,List.length_cons] at hf
 have e4 : (fr l.length (sm l) (l ++ 10 :: r)).getD (13 + l.length) 0 = 10:=by
  rw [fr_at,List.getD_eq_getElem?_getD,List.getElem?_append_right (Nat.le_refl _),Nat.sub_self]
  rfl
 rw [tk_fine (by omega) (fr_head _ _ _ h (sm_lt l)) (by rw [e1];simp only;omega) (by rw [e1];exact e4) (by rw [e1,e2];simp only;rw [e3]),e1]
 simp only
 rw [e3,Nat.add_comm]
theorem tk_torn (l : List UInt8) (j : Nat) (h : l.length <= 262144) (hj : j < l.length + 14) : (tkL ((enc l).take j)).2.2 ≠ 0:=by
 have hlen : ((enc l).take j).length = j:=by rw [List.length_take,enc_len];omega
 by_cases h13 : j < 13
 ·rw [tk_short (by omega)]
  decide
 ·have h1 : ((enc l).take j).take 13 = (enc l).take 13:=by rw [List.take_take,Nat.min_eq_left (by omega)]
  obtain ⟨a1,a2,a3⟩:=headOk_take ((enc l).take j)
  obtain ⟨b1,b2,b3⟩:=headOk_take (enc l)
  rw [h1] at a1 a2 a3
  have hh : headOk ((enc l).take j):=a3.1 (b3.2 (by rw [enc_fr];exact fr_head _ _ _ h (sm_lt l)))
  have hn : (nL ((enc l).take j)).1 = l.length:=by
   rw [<- a1,b1,enc_fr,fr_nL _ _ _ (by omega)]
  rw [tk_cut (by omega) hh (by rw [hn,hlen];omega)]
  decide
def encs (ts : List (List UInt8)) : List UInt8:=ts.flatMap enc
theorem encs_cons (t : List UInt8) (ts : List (List UInt8)) : encs (t :: ts) = enc t ++ encs ts:=by simp [encs]
theorem encs_append (a b : List (List UInt8)) : encs (a ++ b) = encs a ++ encs b:=by simp [encs]
theorem encs_nil : encs [] = []:=rfl
def wh : List (List UInt8) -> Nat -> Nat
 | [],_=>0
 | t :: ts,k=>if t.length + 14 <= k then wh ts (k - (t.length + 14)) + 1 else 0
theorem allF_cut (l : List UInt8) : ∀ (ts : List (List UInt8)) (k f at_ : Nat),(∀ t ∈ ts,t.length <= 262144) -> l.drop at_ = (encs ts).take k -> (l.drop at_).length < f ->
  allF l f at_ = (ts.take (wh ts k),at_ + (encs (ts.take (wh ts k))).length)
 | [],k,f,at_,_,hd,_=>by
  rw [encs_nil,List.take_nil] at hd
  rw [allF_no (by rw [hd];exact tkL_nil)]
  rfl
 | t :: ts,k,f,at_,hts,hd,hf=>by
  have ht:=hts t (List.mem_cons_self ..)
  rw [encs_cons] at hd
  by_cases hk : t.length + 14 <= k
  ·have hd2 : l.drop at_ = enc t ++ (encs ts).take (k - (t.length + 14)):=by
    rw [hd,List.take_append,enc_len,List.take_of_length_le (by rw [enc_len];omega)]
   have hd3 : l.drop (at_ + (t.length + 14)) = (encs ts).take (k - (t.length + 14)):=by
    rw [<- List.drop_drop,hd2]
    exact List.drop_left' (enc_len t)
   obtain ⟨g,rfl⟩ : ∃ g,f = g + 1:=⟨f - 1,by omega⟩
   have hl2 : (l.drop (at_ + (t.length + 14))).length < g:=by
    have e1:=congrArg List.length hd2
    rw [List.length_append,enc_len,<- hd3] at e1
    omega
   have hr : tkL (l.drop at_) = (t,t.length + 14,0):=by rw [hd2];exact tk_enc t _ ht
   rw [allF_ok hr,allF_cut l ts _ g _ (fun u hu=>hts u (List.mem_cons_of_mem _ hu)) hd3 hl2,wh,if_pos hk,List.take_succ_cons,encs_cons,List.length_append,enc_len]
   simp only [Prod.mk.injEq,true_and]
   omega
  ·have hd2 : l.drop at_ = (enc t).take k:=by
    rw [hd,List.take_append_of_le_length (by rw [enc_len];omega)]
   rw [allF_no (by rw [hd2];exact tk_torn t k ht (by omega)),wh,if_neg hk]
   rfl
theorem alls_cut (ts : List (List UInt8)) (k : Nat) (h : ∀ t ∈ ts,t.length <= 262144) : alls ((encs ts).take k) = (ts.take (wh ts k),(encs (ts.take (wh ts k))).length):=by
 unfold alls
 rw [allF_cut _ ts k _ 0 h (by rw [List.drop_zero]) (by rw [List.drop_zero];omega),Nat.zero_add]
end
end Go.Proofs.YtegjjhjgfkcbhaaGreatDoor
