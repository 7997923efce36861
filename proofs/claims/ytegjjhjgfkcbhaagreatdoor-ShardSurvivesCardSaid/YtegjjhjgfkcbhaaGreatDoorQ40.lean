/- AddOk OpenA Open. Conditions: as each part says. -/
import Derived.Test.YtegjjhjgfkcbhaaGreatDoorQ39
import Derived.Deep.RegionLaw
import Derived.Lib.ConvBytes
set_option linter.unusedVariables false
set_option linter.unusedSimpArgs false
set_option maxRecDepth 100000
set_option maxHeartbeats 16000000
namespace Go.Proofs.YtegjjhjgfkcbhaaGreatDoor
section
open Go Go.RowKit
structure LgC (w : World) (G : Nat -> Prop) (p d t f n : Nat) (R : List (List UInt8)) (vr : Value) (st : Nat) (ve vn : Value) (En : List UInt8) : Prop where
 box : Row w p 159 (lcells p d t f n vr st ve)
 rc : OwnL w 0 vr R
 er : ∀ g,vr.ownBlock = some g -> g ≠ p /\ G g
 own : w.ownsRow 0 5 1 vn En.length (Lib.byteCells En)
 eo : ∀ g,vn.ownBlock = some g -> g ≠ p /\ G g /\ vr.ownBlock ≠ some g
 gp : G p
 lt : ∀ b,G b -> b < w.heap.size
section
variable {w w' : World} {F G F' : Nat -> Prop} {p d t f n : Nat} {R : List (List UInt8)} {vr : Value} {st : Nat} {A : Option Addr} {m c : Nat} {E En : List UInt8} {ve vn : Value}
theorem LgC.keep (h : LgC w G p d t f n R vr st ve vn En) (hk : ∀ b,G b -> w'.heap[b]? = w.heap[b]?) (hs : w.heap.size <= w'.heap.size) : LgC w' G p d t f n R vr st ve vn En :=
 {h with
  box:=h.box.keep (hk p h.gp)
  rc:=own_keep h.rc fun g hg=>hk g (h.er g hg).2
  own:=own_keep h.own fun g hg=>hk g (h.eo g hg).2.1
  lt:=fun b hb=>by have:=h.lt b hb;omega }
theorem LgC.drewN (h : LgC w G p d t f n R vr st ve vn En) (q : Nat) : LgC (w.drewN q) G p d t f n R vr st ve vn En:=h.keep (fun _ _=>rfl) (Nat.le_refl _)
theorem LgC.turn (h : LgC w G p d t f n R vr st ve vn En) (T : Turn F w F' w') (ha : ∀ b,F b -> ¬ G b) : LgC w' G p d t f n R vr st ve vn En:=h.keep (fun b hG=>T.block b (h.lt b hG) (fun hF=>ha b hF hG)) T.size
theorem LgW.grow (h : LgW w G p d t f n R vr st A m c E) (hown : w'.ownsRow 0 5 1 vn En.length (Lib.byteCells En)) (hg : w.grownBy w' (Value.slice A m c).ownBlock) (ho : vn.ownBlock = (Value.slice A m c).ownBlock \/ vn.ownBlock = some w.heap.size) :
  LgC w' (fun b=>G b \/ vn.ownBlock = some b) p d t f n R vr st (.slice A m c) vn En /\ Turn G w (fun b=>G b \/ vn.ownBlock = some b) w':=by
 have hA : ∀ g,(Value.slice A m c).ownBlock = some g -> g ≠ p /\ G g:=fun g hg'=>by
  rcases A with _ | ad
  ·simp [Value.ownBlock] at hg'
  ·simp only [Value.ownBlock,Option.some.injEq] at hg'
   have:=h.ea ad rfl
   rw [hg'] at this
   exact this
 have hk : ∀ b,b < w.heap.size -> (Value.slice A m c).ownBlock ≠ some b -> w'.heap[b]? = w.heap[b]?:=fun b hb hne=>hg.block b hb (fun e=>hne e.symm)
 have hlt:=h.lt
 have hn : ∀ g,vn.ownBlock = some g -> (Value.slice A m c).ownBlock = some g \/ g = w.heap.size:=fun g hg'=>by
  rcases ho with e | e
  ·exact .inl (e ▸ hg')
  ·rw [e] at hg'
   injection hg' with hg'
   exact .inr hg'.symm
 refine ⟨⟨h.box.keep (hk p h.pl (fun e=>(hA p e).1 rfl)),own_keep h.rc fun g hg'=>hk g (hlt g (h.er g hg').2) (h.ev g hg'),fun g hg'=>⟨(h.er g hg').1,.inl (h.er g hg').2⟩,hown,fun g hg'=>?_,.inl h.gp,fun b hb=>?_⟩,⟨hg.os,hg.tape,hg.output,hg.size,fun b hb hG=>hk b hb (fun e=>hG (hA b e).2),fun b hb=>?_⟩⟩
 ·rcases hn g hg' with e | e
  ·exact ⟨(hA g e).1,.inr hg',fun e2=>h.ev g e2 e⟩
  ·have:=h.pl
   exact ⟨by omega,.inr hg',fun e2=>by have:=hlt g (h.er g e2).2;omega⟩
 ·rcases hb with hb | hb
  ·have:=hlt b hb
   have:=hg.size
   omega
  ·exact (hown.lt b hb).2
 ·rcases hb with hb | hb
  ·exact .inl hb
  ·rcases hn b hb with e | e
   ·exact .inl (hA b e).2
   ·exact .inr (by omega)
theorem LgC.put (h : LgC w G p d t f n R vr st ve vn En) {An : Option Addr} {cn : Nat} (hv : vn = .slice An En.length cn) : LgW (w.setCell ⟨p,8,none⟩ vn) G p d t f n R vr st An En.length cn En:=by
 subst hv
 have hk : ∀ b,b ≠ p -> (w.setCell ⟨p,8,none⟩ (.slice An En.length cn)).heap[b]? = w.heap[b]?:=fun b hb=>heap_set_ne w ⟨p,8,none⟩ _ hb
 have ho : (w.setCell ⟨p,8,none⟩ (.slice An En.length cn)).ownsRow 0 5 1 (.slice An En.length cn) En.length (Lib.byteCells En):=own_keep h.own fun g hg=>hk g (h.eo g hg).1
 have hq : En.length <= cn /\ cn <= maxLen:=by
  obtain ⟨_,_,e,h1,h2⟩:=own_shape h.own
  injection e with _ _ e
  subst e
  exact ⟨h1,h2⟩
 refine ⟨⟨h.box.set 8 _,own_keep h.rc fun g hg=>hk g (h.er g hg).1,Reads.of_own ho,hq,h.er,fun ad e=>?_,fun e=>?_,h.gp,fun b hb=>by rw [World.size_setCell];exact h.lt b hb⟩,ho,fun g hg e=>(h.eo g e).2.2 hg⟩
 ·subst e
  have:=h.eo ad.block rfl
  exact ⟨this.1,this.2.1⟩
 ·subst e
  rcases h.own.2 with ⟨e,_⟩ | ⟨g,cap,cur,e,_⟩
  ·injection e
  ·injection e with e _ _
   cases e
theorem LgW.record {vr' : Value} {r : List UInt8} (h : LgW w G p d t f n R vr st A m c E) (hown : w'.ownsRow 0 9 1 vr' (R.length + 1) (strL R ++ [.string ⟨r.toArray⟩])) (hg : w.grownBy w' vr.ownBlock) (ho : vr'.ownBlock = vr.ownBlock \/ vr'.ownBlock = some w.heap.size) :
  LgW (w'.setCell ⟨p,6,none⟩ vr') (fun b=>G b \/ vr'.ownBlock = some b) p d t f n (R ++ [r]) vr' st A m c E /\ Turn G w (fun b=>G b \/ vr'.ownBlock = some b) (w'.setCell ⟨p,6,none⟩ vr'):=by
 have hlt:=h.lt
 have hsz:=hg.size
 have hA : ∀ g,(Value.slice A m c).ownBlock = some g -> g ≠ p /\ G g:=fun g hg'=>by
  rcases A with _ | ad
  ·simp [Value.ownBlock] at hg'
  ·simp only [Value.ownBlock,Option.some.injEq] at hg'
   have:=h.ea ad rfl
   rw [hg'] at this
   exact this
 have hk : ∀ b,b < w.heap.size -> vr.ownBlock ≠ some b -> b ≠ p -> (w'.setCell ⟨p,6,none⟩ vr').heap[b]? = w.heap[b]?:=fun b hb hne hbp=>(heap_set_ne w' ⟨p,6,none⟩ _ hbp).trans (hg.block b hb (fun e=>hne e.symm))
 have hn : ∀ g,vr'.ownBlock = some g -> vr.ownBlock = some g \/ g = w.heap.size:=fun g hg'=>by
  rcases ho with e | e
  ·exact .inl (e ▸ hg')
  ·rw [e] at hg'
   injection hg' with hg'
   exact .inr hg'.symm
 have hp : ∀ g,vr'.ownBlock = some g -> g ≠ p:=fun g hg'=>(hn g hg').elim (fun e=>(h.er g e).1) (fun e=>by have:=h.pl;omega)
 have hbx : Row w' p 159 (lcells p d t f n vr st (.slice A m c)):=h.box.keep (hg.block p h.pl (fun e=>(h.er p e.symm).1 rfl))
 have hown2 : (w'.setCell ⟨p,6,none⟩ vr').ownsRow 0 5 1 (.slice A m c) E.length (Lib.byteCells E):=own_keep h.own fun g hg'=>hk g (hlt g (hA g hg').2) (fun e=>h.ev g e hg') (hA g hg').1
 have hrc : OwnL (w'.setCell ⟨p,6,none⟩ vr') 0 vr' (R ++ [r]):=by
  unfold OwnL
  rw [<- strL_snoc,List.length_append]
  exact own_keep hown fun g hg'=>heap_set_ne w' ⟨p,6,none⟩ _ (hp g hg')
 have hen : Reads (w'.setCell ⟨p,6,none⟩ vr') (w'.setCell ⟨p,6,none⟩ vr').heap.size 1 A m (Lib.byteCells E):=by
  have hm:=h.len
  subst hm
  exact Reads.of_own hown2
 refine ⟨⟨⟨hbx.set 6 vr',hrc,hen,h.mc,fun g hg'=>⟨hp g hg',.inr hg'⟩,fun ad e=>⟨(h.ea ad e).1,.inl (h.ea ad e).2⟩,h.an,.inl h.gp,fun b hb=>?_⟩,hown2,fun g hg' e=>?_⟩,⟨hg.os,hg.tape,hg.output,by rw [World.size_setCell];exact hsz,fun b hb hG=>hk b hb (fun e=>hG (h.er b e).2) (fun e=>hG (e ▸ h.gp)),fun b hb=>?_⟩⟩
 ·rw [World.size_setCell]
  rcases hb with hb | hb
  ·have:=hlt b hb
   omega
  ·exact (hown.lt b hb).2
 ·rcases hn g hg' with e2 | e2
  ·exact h.ev g e2 e
  ·have:=hlt g (hA g e).2
   omega
 ·rcases hb with hb | hb
  ·exact .inl hb
  ·rcases hn b hb with e | e
   ·exact .inl (h.er b e).2
   ·exact .inr (by omega)
end
theorem encs_one (R : List (List UInt8)) (r : List UInt8) : encs (R ++ [r]) = encs R ++ enc r:=by
 rw [encs_append]
 congr 1
 simp [encs]
section
variable {w w' : World} {F G F' : Nat -> Prop} {p d N t st : Nat} {R : List (List UInt8)} {sr : Nat} {su : List ByteArray} {l : List (Nat × ByteArray)}
theorem Disk.grownBy {G G' : Nat -> Prop} (h : Disk w F d N su l) (T : Turn G w G' w') (ha : ∀ b,F b -> ¬ G b) : Disk w' F d N su l:=h.turn T ha
theorem LgW.grow' {G : Nat -> Prop} {f n : Nat} {vr vn : Value} {A : Option Addr} {m c : Nat} {E En : List UInt8} (h : LgW w G p d t f n R vr st A m c E) (hown : w'.ownsRow 0 5 1 vn En.length (Lib.byteCells En)) (hg : w.grownBy w' (Value.slice A m c).ownBlock) (ho : vn.ownBlock = (Value.slice A m c).ownBlock \/ vn.ownBlock = some w.heap.size) :
  ∃ G',LgC w' G' p d t f n R vr st (.slice A m c) vn En /\ Turn G w G' w':=⟨_,h.grow hown hg ho⟩
theorem LgW.record' {G : Nat -> Prop} {f n : Nat} {vr vr' : Value} {A : Option Addr} {m c : Nat} {E : List UInt8} {r : List UInt8} (h : LgW w G p d t f n R vr st A m c E) (hown : w'.ownsRow 0 9 1 vr' (R.length + 1) (strL R ++ [.string ⟨r.toArray⟩])) (hg : w.grownBy w' vr.ownBlock) (ho : vr'.ownBlock = vr.ownBlock \/ vr'.ownBlock = some w.heap.size) :
  ∃ G',LgW (w'.setCell ⟨p,6,none⟩ vr') G' p d t f n (R ++ [r]) vr' st A m c E /\ Turn G w G' (w'.setCell ⟨p,6,none⟩ vr'):=⟨_,h.record hown hg ho⟩
theorem LgW.grown6 {G : Nat -> Prop} {f n : Nat} {vr : Value} {A : Option Addr} {m c : Nat} {E : List UInt8} (h : LgW w G p d t f n R vr st A m c E) (hg : w.grownBy w' vr.ownBlock) : w'.cell? ⟨p,6,none⟩ = some vr /\ w'.frozen? ⟨p,6,none⟩ = false /\ p < w'.heap.size:=by
 have hb : Row w' p 159 (lcells p d t f n vr st (.slice A m c)):=h.box.keep (hg.block p h.pl (fun e=>(h.er p e.symm).1 rfl))
 exact ⟨hb.cell (j:=6) rfl,hb.frozen 6,hb.lt⟩
theorem encs_count (R : List (List UInt8)) : 14 * R.length <= (encs R).length:=by
 induction R with
 | nil=>simp [encs]
 | cons r R ih=>rw [encs_cons,List.length_append,enc_len,List.length_cons];omega
theorem LogD.add (h : LogD N t R sr su l) (r : List UInt8) (hr : r.length <= 32768) (hfit : (encs R).length + (r.length + 14) <= 128 * hB N t) (i cnt : Nat) (hi : 128 * i <= (encs R).length) (hi2 : (encs R).length <= 128 * (i + 1)) (hic : i + cnt <= hB N t) (hc : (encs (R ++ [r])).length <= 128 * (i + cnt)) :
  LogD N t (R ++ [r]) sr su (l ++ layW (setsP l su) (hF N t + i) cnt ((encs (R ++ [r])).drop (128 * i))):=by
 have hn:=h.now
 have he:=encs_one R r
 have hl : (encs (R ++ [r])).length = (encs R).length + (r.length + 14):=by rw [he,List.length_append,enc_len]
 have htk : ∀ m,m <= (encs R).length -> (encs (R ++ [r])).take m = (encs R).take m:=fun m hm=>by rw [he,List.take_append_of_le_length hm]
 obtain ⟨m,h1,h2,h3⟩:=h.way
 refine ⟨h.h4,h.hN,h.ht,fun x hx=>?_,by omega,h.heads,⟨m,?_,?_,?_⟩,by rw [List.length_append];have:=h.sr;omega⟩
 ·rcases List.mem_append.1 hx with hx | hx
  ·exact h.small x hx
  ·simp only [List.mem_singleton] at hx
   rw [hx]
   exact hr
 ·rw [htk m h2.le]
  exact h1
 ·have h2':=h2.grow (enc r)
  rw [<- he] at h2'
  refine h2'.app (layW_way _ _ _ _ cnt i _ hi hi2 (by omega) hic hc fun j hj1 hj2=>?_)
  rw [htk _ (Nat.le_refl _),List.take_length]
  exact hn j (by omega)
 ·rw [List.take_append_of_le_length h.sr]
  exact h3
theorem add_ok (h : LogS w F G p d N t st R sr su l) (r : List UInt8) (hr : r.length <= 32768) (hfit : (encs R).length + (r.length + 14) <= 128 * hB N t) (hl : l.length <= 900000) (hT : TabW w) :
  Calls Tryz.prog 86 #[.pointer (some ⟨p,0,none⟩),.string ⟨r.toArray⟩] w fun e w'=>e = .returned (.int .i64 0) /\ ∃ F' G' l',LogS w' F' G' p d N t st (R ++ [r]) sr su l' /\ l'.length <= l.length + 300 /\ Turn (Un F G) w (Un F' G') w':=by
 obtain ⟨vr,A,m,c,hM⟩:=h.mem
 have hpos:=hT.size
 have hg:=lgiven_any hM.toLgR
 obtain ⟨hs1,hs2⟩:=h.stB
 have hF3:=hFB N t h.ok.h4
 have hN:=h.ok.hN
 have hsl:=h.len
 have hlen:=hM.toLgR.len
 have hrm:=fun q=>log_room (h.drewN q)
 have hjn:=fun w1 (hb1 : Below w.heap.size w w1)=>join_any [r] (128 * hB N t - (encs R).length) (by omega) _ 1 1 (w1.alloc (.cells #[.string ⟨r.toArray⟩] 9)) (by simpa using one_reads w1 r) (by unfold maxLen;omega) (hT.below (hb1.alloc hb1.size _) hpos)
 have he1 : encs [r] = enc r:=by simp [encs]
 have hv : joinV [r] (128 * hB N t - (encs R).length) = .tuple #[.string ⟨(enc r).toArray⟩,.int .i64 0]:=by
  have : joinE [r] (128 * hB N t - (encs R).length) = 0:=joinE_ok (fun x hx=>by simp only [List.mem_singleton] at hx;rw [hx];exact hr) (by rw [he1,enc_len];omega)
  unfold joinV
  rw [this,if_pos rfl,he1]
 simp only [hv] at hjn
 -- the bytes,and where they go
 obtain ⟨k,hk⟩ : ∃ k,k = m / 128:=⟨_,rfl⟩
 have hkz : (m : Int) / 128 = (k : Int):=by omega
 have henl:=enc_len r
 have hEn : (encs R).drop (128 * st) ++ enc r = (encs (R ++ [r])).drop (128 * st):=by rw [encs_one,List.drop_append_of_le_length h.stE]
 obtain ⟨En,hEn'⟩ : ∃ En,En = (encs R).drop (128 * st) ++ enc r:=⟨_,rfl⟩
 have hEl : En.length = m + (r.length + 14):=by rw [hEn',List.length_append,henl,hlen]
 obtain ⟨S,hS⟩ : ∃ S,S = En.drop (128 * k):=⟨_,rfl⟩
 have hS2 : S = (encs (R ++ [r])).drop (128 * (st + k)):=by rw [hS,hEn',hEn,List.drop_drop];congr 1;omega
 have hSl : S.length = m + (r.length + 14) - 128 * k:=by rw [hS,List.length_drop,hEl]
 obtain ⟨cnt,hcnt⟩ : ∃ cnt,cnt = (S.length + 127) / 128:=⟨_,rfl⟩
 have hcn : cnt <= 260:=by omega
 have htot : (encs (R ++ [r])).length = (encs R).length + (r.length + 14):=by rw [encs_one,List.length_append,henl]
 have hok:=h.ok.add r hr hfit (st + k) cnt (by omega) (by omega) (by omega) (by omega)
 rw [<- hS2] at hok
 have hll:=layW_len (setsP l su) cnt (hF N t + (st + k)) S
 have hlay:=fun w1 F1 (hD : Disk w1 F1 d N su l)=>lay_any hD (hF N t) (hB N t) (st + k) cnt ⟨S.toArray⟩ (by omega) hN (by omega) (by show S.length <= _;omega)
 rw [show (⟨S.toArray⟩ : ByteArray).data.toList = S from rfl] at hlay
 generalize layW (setsP l su) (hF N t + (st + k)) cnt S = WW at *
 have hblk:=fun w=>blocksOf_any ⟨S.toArray⟩ (by show S.length <= _;omega) w
 rw [show (((⟨S.toArray⟩ : ByteArray).size + 127) / 128 : Nat) = cnt from hcnt.symm] at hblk
 rw [Int.natCast_add] at hlay
 have hcl:=fun w=>clone_any ⟨r.toArray⟩ (by show r.length <= _;omega) w
 obtain ⟨i0,hi,hz0,hz1,hz2⟩:=info_parts byte_row
 obtain ⟨i1,hi1,hy0,hy1,hy2⟩:=info_parts str_row
 have HG:=Lib.hid hg
 have HR:=Lib.hid hrm
 have HJ:=Lib.hid hjn
 have HM:=Lib.hid hM
 have HD:=Lib.hid h.disk
 have HA:=Lib.hid h.apart
 have HO:=Lib.hid (And.intro hok hll)
 have HL:=Lib.hid hlay
 have HB:=Lib.hid hblk
 have HC:=Lib.hid hcl
 have hfin : ∀ w1 F1 G1 vr1 A1 m1 c1,Disk w1 F1 d N su (l ++ WW) -> LgW w1 G1 p d t (hF N t) (hB N t) (R ++ [r]) vr1 st A1 m1 c1 En -> (∀ b,F1 b -> ¬ G1 b) -> LogS w1 F1 G1 p d N t st (R ++ [r]) sr su (l ++ WW) :=
  fun w1 F1 G1 vr1 A1 m1 c1 k1 k2 k3=>⟨k1,⟨vr1,A1,m1,c1,by rw [<- hEn,<- hEn'];exact k2⟩,k3,hok,by have:=h.stE;omega⟩
 have HF:=Lib.hid hfin
 have HEN : Hid (∀ (w' : World) (v' : Value),w'.ownsRow 0 5 1 v' (((encs R).drop (128 * st)).length + (⟨(enc r).toArray⟩ : ByteArray).size) (Lib.byteCells ((encs R).drop (128 * st)) ++ Lib.strCells ⟨(enc r).toArray⟩) -> w'.ownsRow 0 5 1 v' En.length (Lib.byteCells En)):=Lib.hid fun w' v' hx=>by
  rw [hEn',List.length_append,Lib.byteCells_append]
  exact hx
 have HSL : Hid (∀ (w' : World) (A' : Option Addr) (c' : Nat),w'.ownsRow 0 5 1 (.slice A' En.length c') En.length (Lib.byteCells En) -> ∃ ad,A' = some ad /\ ¬ c' = k * 128 /\ (k : Int) * 128 <= (c' : Int) /\ (convert 139 9 (.slice (some (ad.add (k * 128))) (En.length - k * 128) (c' - k * 128))).run Tryz.prog w' = .ok (.string ⟨S.toArray⟩) w'):=Lib.hid fun w' A' c' hx=>by
  obtain ⟨A2,c2,e,h1,h2⟩:=own_shape hx
  injection e with _ _ e
  subst e
  obtain ⟨g,cap,e,_⟩:=hx.form (by omega)
  injection e with e _ _
  subst e
  refine ⟨_,rfl,by omega,by omega,?_⟩
  have hrc:=(Reads.of_own hx).cut (k:=128 * k) (cap:=c') (by omega) h1
  rw [if_neg (by omega),Nat.mul_one,byteCells_drop,Option.map_some,<- hS,show 128 * k = k * 128 by omega] at hrc
  exact conv_reads hrc (c' - k * 128) 139 9 Tryz.underlying139 Tryz.underlying9
 have hfs : (⟨(enc r).toArray⟩ : ByteArray).size = r.length + 14:=henl
 have hfz : (⟨(enc r).toArray⟩ : ByteArray).size <= 40000:=by omega
 have hmz : (m : Int) <= 3000000:=by omega
 have hRl : R.length <= 200000:=by have:=encs_count R;have:=h.ok.fit;omega
 have hkm : (k : Int) * 128 <= (m : Int):=by omega
 have hkl : (k : Int) * 128 <= (En.length : Int):=by omega
 have hsk : (st : Int) + (k : Int) <= 100000:=by omega
 have hm1 : ((encs R).drop (128 * st)).length + (⟨(enc r).toArray⟩ : ByteArray).size <= 3100000:=by omega
 have hLz : (En.length : Int) <= 3100000:=by omega
 have hf0 : (0 : Int) <= (k : Int) * 128:=by omega
 have hkt : ((k : Int) * 128).toNat = k * 128:=by omega
 clear hg hrm hjn hM hok hll hlay hblk hcl hfin h hT hv he1 hS hS2 hEn hEn' hEl hSl hcnt htot hk hlen hsl hF3 hfit hs1 hs2 hfs henl hr
 unfold halfV at HL
 generalize (⟨(enc r).toArray⟩ : ByteArray) = fs at *
 generalize hrs : (⟨r.toArray⟩ : ByteArray) = rs at *
 have HRS:=Lib.hid hrs
 generalize (⟨S.toArray⟩ : ByteArray) = Ss at *
 generalize hEE : (encs R).drop (128 * st) = E at *
 clear hrs hEE
 go_enter Tryz.func86,Tryz.ntmps86
 go_wp2_with fail
 refine HG.out.mono ?_
 rintro e w1 ⟨rfl,q,rfl⟩
 go_wp2_with fail
 refine (HR.out q).mono ?_
 rintro e w2 ⟨rfl,hb2⟩
 have hb2':=(below_drewN (Below.refl _ w) q).trans hb2
 go_wp2_with fail
 refine (HJ.out w2 hb2').mono ?_
 rintro e w3 ⟨rfl,hb3⟩
 have hb3':=(hb2'.alloc hb2'.size (.cells #[.string rs] 9)).trans (hb3.mono (B':=w.heap.size) (by have:=hb2'.size;simp;omega))
 have hM3:=HM.out.below hb3'
 have c8:=hM3.c8
 have pl:=hM3.pl
 have HM3:=Lib.hid (And.intro hM3 (HD.out.below hb3'))
 have HB3:=Lib.hid hb3'
 clear hb2 hb2' hb3 hb3' hM3
 go_wp2_with (at_builtin;go_loud (refine wpList_append_str rfl (.tmp 28) (.tmp 29) 139 9 rfl 0 5 i0 Tryz.underlying139 Tryz.underlying9 hi hz0 hz1 hz2 _ E.length _ rfl HM3.out.1.own fs rfl (by unfold maxLen;omega) (by omega) (Nat.zero_le _) ?_;intro v4 w4 hown4 hg4 ho4;replace hown4:=HEN.out _ _ hown4;obtain ⟨A4,cp,rfl,hq1,hq2⟩:=own_shape hown4;obtain ⟨ad,rfl,hck,hkc,hcv⟩:=HSL.out _ _ _ hown4;obtain ⟨G4,hX4⟩:=HM3.out.1.grow' hown4 hg4 ho4;replace hX4:=Lib.hid hX4;have c8':=hX4.out.1.box.cell (j:=8) rfl;have pl4:=hX4.out.1.box.lt;have hq3:=Lib.hid (And.intro hq1 hq2);clear hq1 hq2 hown4 hg4 ho4))
 have c3:=hX4.out.1.box.cell (j:=3) rfl
 have c4:=hX4.out.1.box.cell (j:=4) rfl
 have c5:=hX4.out.1.box.cell (j:=5) rfl
 have c7:=hX4.out.1.box.cell (j:=7) rfl
 go_wp2_with fail
 have hw1 : IntKind.i64.wrap ((st : Int) + (k : Int)) = (st : Int) + (k : Int):=by simp only [IntKind.wrap_i64];omega
 go_region_held3 (fun w'=>w'.cell? ⟨p,3,none⟩ = some (.pointer (some ⟨d,0,none⟩)) /\ w'.cell? ⟨p,4,none⟩ = some (.int .i64 ((hF N t : Nat) : Int)) /\ w'.cell? ⟨p,5,none⟩ = some (.int .i64 ((hB N t : Nat) : Int)) /\ w'.cell? ⟨p,7,none⟩ = some (.int .i64 (st : Int)))
  (first | exact ⟨d3,d4,d5,d7⟩ | exact ⟨c3,c4,c5,c7⟩)
  (first
   | (go_at_call 99;refine (HB.out _).mono ?_;rintro e w9 ⟨rfl,rfl⟩)
   | (go_at_call 98;refine (HL.out _ _ ((HM3.out.2.grownBy hX4.out.2 HA.out).drewN 1)).mono ?_;rintro e w5 ⟨rfl,F5,hD5,hT5⟩;have H5:=(hX4.out.1.drewN 1).turn hT5 (apart_right hX4.out.2 HA.out HM3.out.2.lt);have d3:=H5.box.cell (j:=3) rfl;have d4:=H5.box.cell (j:=4) rfl;have d5:=H5.box.cell (j:=5) rfl;have d7:=H5.box.cell (j:=7) rfl))
 have e8:=H5.box.cell (j:=8) rfl
 have y8:=H5.box.frozen 8
 have pl5:=H5.box.lt
 have hap5:=apart_left (((Turn.drewN F _ 1).trans hT5)) (apart_right hX4.out.2 HA.out HM3.out.2.lt) (fun b hb=>hX4.out.1.lt b hb)
 have HY:=Lib.hid (And.intro H5 (And.intro hD5 (And.intro hT5 hap5)))
 clear H5 hD5 hT5 hap5 c3 c4 c5 c7 c8 d3 d4 d5 d7 c8' pl4 pl hw1
 go_wp2_with fail
 have hL6:=HY.out.1.put rfl
 have hT6:=Turn.set G4 w5 (a:=⟨p,8,none⟩) HY.out.1.gp (.slice (some ad) En.length cp)
 obtain ⟨W6,hW6⟩ : ∃ W6,W6 = w5.setCell ⟨p,8,none⟩ (.slice (some ad) En.length cp):=⟨_,rfl⟩
 rw [<- hW6] at hL6 hT6 ⊢
 clear hW6
 have c6:=hL6.c6
 have HZ:=Lib.hid (And.intro hL6 hT6)
 clear hL6 hT6 e8 y8 pl5
 have pl6:=HZ.out.1.pl
 go_region_law (first
   | (refine step_append_lies _ rfl (.tmp 67) (.tmp 70) 108 rfl 0 9 i1 _ 1 16 Tryz.underlying108 hi1 hy0 hy1 hy2 rfl (by decide) vr R.length (strL R) rfl HLA.out.rc ⟨w9.heap.size,0,none⟩ 1 1 [.string rs] rfl rfl (news_cells w9 #[.string rs] 9) (by intro u hu;simp at hu;subst hu;rfl) (by omega) (by unfold maxLen;omega) (by omega) (Nat.zero_le _) (w9.alloc (.cells #[.string rs] 9)).heap.size rfl ?_;intro g cap w10 hown10 hg10 ho10 hlt10;obtain ⟨d6',z6',pl10⟩:=HLA.out.grown6 hg10)
   | (go_simp;go_at_call 138;refine (HC.out _).mono ?_;rintro e w9 ⟨rfl,hb9⟩;have HL9:=Lib.hid ((HZ.out.1.drewN 1).below hb9);have HLA:=Lib.hid (HL9.out.below ((Below.refl _ _).alloc (Nat.le_refl _) (.cells #[.string rs] 9)));have d6:=HL9.out.c6;have pl9:=HL9.out.pl;have HB9:=Lib.hid hb9;clear hb9))
 all_goals
  have hwn : w10.ownsRow 0 9 1 (.slice (some ⟨g,0,none⟩) (R.length + 1) cap) (R.length + 1) (strL R ++ [.string ⟨r.toArray⟩]):=by rw [HRS.out];exact hown10
  obtain ⟨G10,hL10,hT10⟩:=HLA.out.record' hwn hg10 (ho10.imp (fun e=>e.symm) (fun e=>by rw [e];rfl))
  have HV:=Lib.hid (And.intro hL10 hT10)
  clear hL10 hT10 hwn d6 pl9
  go_wp2_with fail
  go_ret
  have hb9:=HB9.out
  have hbA : Below W6.heap.size W6 (w9.alloc (.cells #[.string rs] 9)):=((below_drewN (Below.refl _ W6) 1).trans hb9).alloc hb9.size _
  have hD6:=HY.out.2.1.turn HZ.out.2 HY.out.2.2.2
  have hD9:=hD6.below hbA
  have hD10:=hD9.turn HV.out.2 HY.out.2.2.2
  have T1 : Turn (Un F G) w (Un F G) w3:=Turn.below _ HB3.out
  have T2:=T1.trans (hX4.out.2.right F)
  have T3:=T2.trans (((Turn.drewN F w4 1).trans HY.out.2.2.1).left G4)
  have T4:=(T3.trans (HZ.out.2.right F5)).trans (Turn.below _ hbA)
  have T5:=T4.trans (HV.out.2.right F5)
  exact ⟨rfl,F5,G10,_,HF.out _ _ _ _ _ _ _ hD10 HV.out.1 (apart_right HV.out.2 HY.out.2.2.2 hD9.lt),by rw [List.length_append];have:=HO.out.2;omega,T5⟩
end
end
section
open Go Go.RowKit
structure DiskD (N t : Nat) (R : List (List UInt8)) (m : Nat) (su : List ByteArray) : Prop where
 h4 : 4 <= N
 hN : N <= 16384
 ht : t <= 1000000
 small : ∀ r ∈ R,r.length <= 32768
 fit : (encs R).length <= 128 * hB N t
 heads : Heads t su
 at_ : AtH su (hF N t) (hB N t) ((encs R).take m)
section
variable {N t m : Nat} {R : List (List UInt8)} {su : List ByteArray} {l : List (Nat × ByteArray)}
def cleanW (N t : Nat) (E : List UInt8) (su : List ByteArray) : List (Nat × ByteArray):=layW su (hF N t + E.length / 128) (hB N t - E.length / 128) (E.drop (128 * (E.length / 128)))
theorem heads_same {sv : List ByteArray} (h : Heads t su) (g : ∀ i,i < 2 -> sv[i]? = su[i]?) : Heads t sv:=by
 obtain ⟨a,b,ha,hb,e⟩:=h
 exact ⟨a,b,by rw [List.getD_eq_getElem?_getD,g 0 (by omega),<- List.getD_eq_getElem?_getD];exact ha,by rw [List.getD_eq_getElem?_getD,g 1 (by omega),<- List.getD_eq_getElem?_getD];exact hb,e⟩
theorem DiskD.opened (h : DiskD N t R m su) (hlen : su.length = N) : LogD N t (R.take (wh R m)) (R.take (wh R m)).length (setsP (cleanW N t (encs (R.take (wh R m))) su) su) []:=by
 have hw:=wh_len R m
 obtain ⟨E,hE⟩ : ∃ E,E = encs (R.take (wh R m)):=⟨_,rfl⟩
 have hcut:=encs_cut R (wh R m) m hw.2
 rw [<- hE] at hcut hw ⊢
 have hpart:=encs_part R (wh R m)
 rw [<- hE] at hpart
 have hF3:=hFB N t h.h4
 have hfit:=h.fit
 have hk : E.length / 128 <= hB N t:=by omega
 have hset:=layW_sets su (hB N t - E.length / 128) (hF N t + E.length / 128) (E.drop (128 * (E.length / 128))) su (fun _ _ _=>rfl) (by omega)
 have hat : AtH (setsP (cleanW N t E su) su) (hF N t) (hB N t) E:=by
  intro i hi
  rcases Nat.lt_or_ge i (E.length / 128) with hlt | hge
  ·have h2:=hset.2 (hF N t + i) (.inl (by omega))
   unfold cleanW
   rw [h2,h.at_ i hi]
   have e:=chk_full (E:=(encs R).take m) (m:=E.length) (i:=i) (by omega)
   rw [<- hcut] at e
   rw [e]
  ·have h1:=hset.1 (i - E.length / 128) (by omega)
   unfold cleanW
   rw [chk_drop,show hF N t + E.length / 128 + (i - E.length / 128) = hF N t + i by omega,show E.length / 128 + (i - E.length / 128) = i by omega] at h1
   exact h1
 refine ⟨h.h4,h.hN,h.ht,fun r hr=>h.small r (List.mem_of_mem_take hr),by rw [<- hE];omega,heads_same h.heads fun i hi=>hset.2 i (.inl (by omega)),⟨E.length,?_,?_,?_⟩,Nat.le_refl _⟩
 ·rw [<- hE,List.take_length]
  exact hat
 ·rw [<- hE]
  exact .nil _
 ·rw [List.take_length,<- hE]
theorem DiskD.reads (h : DiskD N t R m su) : readL su (hF N t) (hB N t) = (encs R).take m:=h.at_.read (by rw [List.length_take];have:=h.fit;omega)
theorem DiskD.all (h : DiskD N t R m su) : alls ((encs R).take m) = (R.take (wh R m),(encs (R.take (wh R m))).length):=alls_cut R m fun r hr=>by have:=h.small r hr;omega
theorem LogD.fail {sr : Nat} (h : LogD N t R sr su l) (keep torn : Int) : ∃ m,DiskD N t R m (failP l su keep torn) /\ sr <= wh R m /\ (l = [] \/ shr keep l.length = l.length -> wh R m = R.length):=by
 obtain ⟨m,h1,h2,h3⟩:=h.way
 obtain ⟨k,a1,a2,a3,a4,a5⟩:=h2.fail (Nat.le_refl _) h1 keep torn
 have hp:=h2.place
 have hF3:=hFB N t h.h4
 refine ⟨k,⟨h.h4,h.hN,h.ht,h.small,h.fit,heads_same h.heads fun i hi=>failP_at fun p hpp e=>by have:=(hp p hpp).1;omega,a3⟩,wh_ge R sr k h.sr (by omega),fun hall=>?_⟩
 have : k = (encs R).length:=hall.elim a4 a5
 rw [this,wh_all]
theorem diskD_new (N : Nat) (h4 : 4 <= N) (hN : N <= 16384) : DiskD N 0 [] 0 (none_ N):=by
 have hg : ∀ i,i < N -> (none_ N)[i]? = some ⟨#[]⟩:=fun i hi=>by
  unfold none_
  rw [List.getElem?_replicate,if_pos hi]
 have hF3:=hFB N 0 h4
 refine ⟨h4,hN,by omega,by simp,by simp [encs],⟨0,0,.inl ⟨?_,rfl⟩,.inl ⟨?_,rfl⟩,rfl⟩,fun i hi=>?_⟩
 ·rw [List.getD_eq_getElem?_getD,hg 0 (by omega)];rfl
 ·rw [List.getD_eq_getElem?_getD,hg 1 (by omega)];rfl
 ·rw [hg _ (by omega),chk_over (Nat.zero_le _)]
end
end
section
open Go Go.RowKit
theorem hB_half (N t : Nat) : 2 * hB N t <= N:=by
  unfold hB
  split <;> omega
theorem bytes_reads (w : World) (s : ByteArray) (cap : Nat) (fr : Nat × Nat) : Reads (w.alloc (.cells (bytesRow s cap) 5 fr)) (w.heap.size + 1) 1 (some ⟨w.heap.size,0,none⟩) s.size (Lib.byteCells s.data.toList):=by
  refine ⟨by rw [Lib.byteCells_length,size_list,Nat.mul_one],fun _=>⟨_,rfl,by simp,fun j u hu=>?_⟩⟩
  rw [add_flat,Nat.zero_add]
  have hb : (w.alloc (.cells (bytesRow s cap) 5 fr)).heap[w.heap.size]? = some (.cells (bytesRow s cap) 5 fr):=by
    show (w.heap.push _)[w.heap.size]? = _
    simp
  simp only [World.cell?,hb]
  unfold bytesRow
  have hj : j < s.data.size:=by
    have:=(List.getElem?_eq_some_iff.1 hu).1
    rw [Lib.byteCells_length] at this
    simpa using this
  rw [Array.getElem?_append_left (by simpa using hj)]
  unfold Lib.byteCells at hu
  simpa using hu
theorem own_base {w : World} {base base' : Nat} {e : TypeId} {size : Nat} {v : Value} {n : Nat} {xs : List Value} (h : w.ownsRow base e size v n xs) (hb : base' <= base) : w.ownsRow base' e size v n xs :=
  ⟨h.1,h.2.imp id fun ⟨g,cap,cur,h1,h2,r⟩=>⟨g,cap,cur,h1,Nat.le_trans hb h2,r⟩⟩
theorem opened_log {w w6 : World} {p d t f n : Nat} {R : List (List UInt8)} {v : Value} {B : Nat} {E : List UInt8} {Es : ByteArray} {cap : Nat} {fr : Nat × Nat} (W : World)
    (hrow : Row w6 p 159 (lcells p d t f n (.slice none 0 0) 0 (.slice none 0 0))) (hv : w6.ownsRow B 9 1 v R.length (strL R)) (hB : p < B) (hp : w.heap.size <= p) (hb : Below w.heap.size w w6) (hE : Es.data.toList = E) (h1 : E.length <= cap) (h2 : cap <= maxLen)
    (hW : W = ((((w6.setCell ⟨p,6,none⟩ v).setCell ⟨p,8,none⟩ (.slice (some ⟨w6.heap.size,0,none⟩) E.length cap)).alloc (.cells (bytesRow Es cap) 5 fr)).drew).drew) :
    LgR W (fun b=>w.heap.size <= b /\ b < W.heap.size) p d t f n R v 0 (some ⟨w6.heap.size,0,none⟩) E.length cap E /\ Below w.heap.size w W:=by
  have hpl:=hrow.lt
  have hsz : W.heap.size = w6.heap.size + 1:=by rw [hW];simp [World.drew]
  have hesz : Es.size = E.length:=by rw [<- hE,size_list]
  have hk : ∀ b,b < w6.heap.size -> b ≠ p -> W.heap[b]? = w6.heap[b]?:=fun b hbl hbp=>by
    rw [hW]
    show (((w6.setCell ⟨p,6,none⟩ v).setCell ⟨p,8,none⟩ _).alloc _).heap[b]? = _
    rw [heap_alloc_lt _ _ (by simpa using hbl),heap_set_ne _ ⟨p,8,none⟩ _ hbp,heap_set_ne _ ⟨p,6,none⟩ _ hbp]
  refine ⟨⟨?_,own_keep (own_base hv (Nat.zero_le _)) fun g hg=>hk g (hv.lt g hg).2 (by have:=(hv.lt g hg).1;omega),?_,⟨h1,h2⟩,fun g hg=>?_,fun ad e=>?_,fun e=>(by cases e),⟨hp,by omega⟩,fun b hb=>hb.2⟩,?_⟩
  · have h3:=(hrow.set 6 v).set 8 (.slice (some ⟨w6.heap.size,0,none⟩) E.length cap)
    have h4 : Row W p 159 _:=h3.keep (w':=W) (by
      rw [hW]
      show (((w6.setCell ⟨p,6,none⟩ v).setCell ⟨p,8,none⟩ _).alloc _).heap[p]? = _
      rw [heap_alloc_lt _ _ (by simpa using hpl)])
    exact h4
  · have h3:=bytes_reads ((w6.setCell ⟨p,6,none⟩ v).setCell ⟨p,8,none⟩ (.slice (some ⟨w6.heap.size,0,none⟩) E.length cap)) Es cap fr
    rw [hesz,hE] at h3
    have h4 : Reads W (w6.heap.size + 1) 1 (some ⟨w6.heap.size,0,none⟩) E.length (Lib.byteCells E):=by
      rw [hW]
      simp only [World.size_setCell] at h3
      exact h3.drew.drew
    rw [hsz]
    exact h4
  · have:=hv.lt g hg
    exact ⟨by omega,by omega,by omega⟩
  · injection e with e
    subst e
    exact ⟨by show w6.heap.size ≠ p;omega,by show w.heap.size <= w6.heap.size;omega,by show w6.heap.size < _;omega⟩
  · rw [hW]
    have h5:=below_setCell (below_setCell hb (p:=⟨p,6,none⟩) hp v) (p:=⟨p,8,none⟩) hp (.slice (some ⟨w6.heap.size,0,none⟩) E.length cap)
    exact ((h5.alloc h5.size _).drew).drew
section
variable {w w' : World} {F G F' : Nat -> Prop} {p d N t m : Nat} {R : List (List UInt8)} {su : List ByteArray}
theorem open_any (h : Disk w F d N su []) (hd : DiskD N t R m su) (hN4 : N <= 4000) (hT : TabW w) : Calls Tryz.prog 53 #[.pointer (some ⟨d,0,none⟩)] w fun e w' =>
    ∃ p F' G' st',e = .returned (.tuple #[.pointer (some ⟨p,0,none⟩),.int .i64 0]) /\ LogS w' F' G' p d N t st' (R.take (wh R m)) (R.take (wh R m)).length (setsP (cleanW N t (encs (R.take (wh R m))) su) su) [] /\ Turn F w (Un F' G') w':=by
  have hpos:=hT.size
  have hF3:=hFB N t hd.h4
  have hN:=hd.hN
  have h4:=hd.h4
  have hlenN:=h.len
  have hop:=hd.opened hlenN
  have hrd:=hd.reads
  have hal:=hd.all
  have hfit:=hop.fit
  obtain ⟨a,b,ha,hb,hab⟩:=hd.heads
  have hbl:=a_blocks h
  have hlt:=fun q=>lastTurn_any (h.drewN q) h4 a b ha hb hT
  rw [hab] at hlt
  have hho:=fun w1 (hb1 : Below w.heap.size w w1)=>halfOf_any (h.below hb1) t (by have:=hd.ht;omega) h4 hN
  have hhr:=fun w1 (hb1 : Below w.heap.size w w1)=>hread_any (h.below hb1) (hF N t) (hB N t) hF3.2.1 hN
  rw [show setsP [] su = su from rfl,hrd] at hhr
  have hps : (⟨((encs R).take m).toArray⟩ : ByteArray).size <= 300000:=by
    show ((encs R).take m).length <= _
    rw [List.length_take]
    have:=hd.fit
    have:=hB_half N t
    omega
  have haa:=fun w1 (hb1 : Below w.heap.size w w1)=>all_any ⟨((encs R).take m).toArray⟩ hps w1 (hT.below hb1 hpos)
  rw [show (⟨((encs R).take m).toArray⟩ : ByteArray).data.toList = (encs R).take m from rfl,hal] at haa
  have hwl:=wh_len R m
  have hcut:=encs_cut R (wh R m) m hwl.2
  have hEl : (encs (R.take (wh R m))).length <= ((encs R).take m).length:=by
    have:=congrArg List.length hcut
    rw [List.length_take] at this
    omega
  have hex : (⟨((encs R).take m).toArray⟩ : ByteArray).extract 0 (encs (R.take (wh R m))).length = ⟨(encs (R.take (wh R m))).toArray⟩:=by
    refine bytes_ext ?_
    rw [Lib.extract_data,List.drop_zero,Nat.sub_zero]
    exact hcut.symm
  have hes : (⟨(encs (R.take (wh R m))).toArray⟩ : ByteArray).data.toList = encs (R.take (wh R m)):=rfl
  have hsz : (⟨(encs (R.take (wh R m))).toArray⟩ : ByteArray).size = (encs (R.take (wh R m))).length:=rfl
  have hfit2 : (encs (R.take (wh R m))).length <= 128 * hB N t:=hfit
  have hlo:=fun w1 F1 (k : Disk w1 F1 d N (setsP (cleanW N t (encs (R.take (wh R m))) su) su) [])=>a_loose k
  unfold AllPost at haa
  simp only at haa
  have hcr : (cleanR su [] (cleanW N t (encs (R.take (wh R m))) su)).1 = setsP (cleanW N t (encs (R.take (wh R m))) su) su /\ (cleanR su [] (cleanW N t (encs (R.take (wh R m))) su)).2 = []:=by
    unfold cleanR
    split
    next e=>rw [e];exact ⟨rfl,rfl⟩
    next e=>exact ⟨by rw [List.nil_append],rfl⟩
  generalize R.take (wh R m) = R' at *
  obtain ⟨E,hE⟩ : ∃ E,encs R' = E:=⟨_,rfl⟩
  have hcln : ∀ w1 G1 p1 v ad c,Disk w1 F d N su [] -> LgR w1 G1 p1 d t (hF N t) (hB N t) R' v 0 (some ad) E.length c E -> (∀ b,F b -> ¬ G1 b) -> Calls Tryz.prog 94 #[.pointer (some ⟨p1,0,none⟩)] w1 fun e w'=>e = .returned (.int .i64 0) /\ ∃ F',Disk w' F' d N (setsP (cleanW N t E su) su) [] /\ Turn F w1 F' w':=fun w1 G1 p1 v ad c k1 k2 k3=>by
    have hc:=clean_any k1 k2 k3 hF3.2.1 hN (by rw [hE] at hfit2;exact hfit2) (by simp;omega)
    have h2:=hcr
    rw [hE] at h2
    unfold cleanW at h2
    rw [show setsP [] su = su from rfl,h2.1,h2.2] at hc
    exact hc
  rw [hE] at haa hex hsz hfit2 hlo hop hEl hes
  clear hcr hcut hwl hal hrd ha hb hfit h4 hps
  have HBl:=Lib.hid hbl
  have HLt:=Lib.hid hlt
  have HHo:=Lib.hid hho
  have HHr:=Lib.hid hhr
  have HAa:=Lib.hid haa
  have HEx:=Lib.hid hex
  have HCl:=Lib.hid hcln
  have HLo:=Lib.hid hlo
  have HOp:=Lib.hid hop
  have HE:=Lib.hid hE
  have HH:=Lib.hid (And.intro h hT)
  have hNz : ((N : Int) == 0) = false:=by rw [beq_eq_false_iff_ne];have:=hd.h4;omega
  have hex1 : (0 : Int) <= (E.length : Int):=by omega
  have hex2 : E.length <= (⟨((encs R).take m).toArray⟩ : ByteArray).size:=hEl
  clear hbl hlt hho hhr haa hex hcln hlo hop hE h hT hd
  unfold halfV at HHo HHr
  generalize (⟨((encs R).take m).toArray⟩ : ByteArray) = P at *
  generalize (⟨E.toArray⟩ : ByteArray) = Es at *
  have HES:=Lib.hid hes
  clear hes
  have hez : (E.length : Int) <= (P.size : Int):=by omega
  obtain ⟨ne,hne⟩ : ∃ ne,ne = E.length:=⟨_,rfl⟩
  go_enter Tryz.func53,Tryz.ntmps53
  go_wp2_with fail
  refine HBl.out.mono ?_
  rintro e w1 ⟨rfl,q,rfl⟩
  go_wp2_with fail
  refine (HLt.out q).mono ?_
  rintro e w2 ⟨rfl,hb2⟩
  have hb2':=(below_drewN (Below.refl _ w) q).trans hb2
  go_wp2_with fail
  refine (HHo.out _ hb2').mono ?_
  rintro e w3 ⟨rfl,hb3⟩
  have hb3':=hb2'.trans (hb3.mono (B':=w.heap.size) hb2'.size)
  go_wp2_with fail
  have hrow : Row (w3.alloc (.cells (lcells w3.heap.size d t (hF N t) (hB N t) (.slice none 0 0) 0 (.slice none 0 0)).toArray 159)) w3.heap.size 159 (lcells w3.heap.size d t (hF N t) (hB N t) (.slice none 0 0) 0 (.slice none 0 0)):=Row.new w3 _ _
  have hb4 : Below w.heap.size w (w3.alloc (.cells (lcells w3.heap.size d t (hF N t) (hB N t) (.slice none 0 0) 0 (.slice none 0 0)).toArray 159)):=hb3'.alloc hb3'.size _
  change Calls _ _ _ (w3.alloc (.cells (lcells w3.heap.size d t (hF N t) (hB N t) (.slice none 0 0) 0 (.slice none 0 0)).toArray 159)) _
  have hp3 : w.heap.size <= w3.heap.size:=hb3'.size
  generalize w3.alloc (.cells (lcells w3.heap.size d t (hF N t) (hB N t) (.slice none 0 0) 0 (.slice none 0 0)).toArray 159) = w4 at hrow hb4 ⊢
  generalize w3.heap.size = p at *
  clear hb2 hb2' hb3 hb3'
  refine (HHr.out _ hb4).mono ?_
  rintro e w5 ⟨rfl,hb5⟩
  have hrow5:=hrow.keep (hb5.block p hrow.lt)
  have hb5':=hb4.trans (hb5.mono (B':=w.heap.size) hb4.size)
  have HR5:=Lib.hid (And.intro hrow5 hb5')
  clear hrow hrow5 hb4 hb5 hb5'
  go_wp2_with fail
  refine (HAa.out _ HR5.out.2).mono ?_
  rintro e w6 ⟨v,rfl,hv6,hb6⟩
  obtain ⟨Av,cv,rfl,hq1,hq2⟩:=own_shape hv6
  have hrow6:=HR5.out.1.keep (hb6.block p HR5.out.1.lt)
  have hb6':=HR5.out.2.trans (hb6.mono (B':=w.heap.size) HR5.out.2.size)
  have c6:=hrow6.cell (j:=6) rfl
  have c8:=hrow6.cell (j:=8) rfl
  have z6:=hrow6.frozen 6
  have z8:=hrow6.frozen 8
  have pl:=hrow6.lt
  have pl5:=HR5.out.1.lt
  have hcv : ∀ W,(convert 9 139 (.string (P.extract 0 E.length))).run Tryz.prog W = .ok (.slice (some ⟨W.heap.size,0,none⟩) Es.size (grownCap W Es.size 0 5)) (W.drew.alloc (.cells (bytesRow Es (grownCap W Es.size 0 5)) 5 ((bytesRow Es (grownCap W Es.size 0 5)).size,(bytesRow Es (grownCap W Es.size 0 5)).size + 1))):=fun W=>by
    rw [HEx.out]
    exact run_bytes_of_string W 9 139 5 Es Tryz.underlying9 Tryz.underlying139 Tryz.underlying5
  have HR6:=Lib.hid (And.intro hrow6 (And.intro hb6' hv6))
  clear hrow6 hb6' hv6 hb6 hq1 hq2
  go_wp2_with fail
  have hcg : ∀ W,E.length <= grownCap W E.length 0 5 /\ grownCap W E.length 0 5 <= maxLen:=fun W=>⟨grownCap_ge ..,grownCap_le_maxLen _ _ _ _ (by unfold maxLen;omega)⟩
  go_region
  all_goals
    first
      | (obtain ⟨cap,hcap⟩ : ∃ cap,cap = grownCap w6.drew E.length 0 5:=⟨_,rfl⟩
         have hc12:=hcg w6.drew
         rw [<- hcap] at hc12 ⊢)
      | (obtain ⟨cap,hcap⟩ : ∃ cap,cap = grownCap (w6.setCell ⟨p,6,none⟩ (.slice Av R'.length cv)).drew E.length 0 5:=⟨_,rfl⟩
         have hc12:=hcg (w6.setCell ⟨p,6,none⟩ (.slice Av R'.length cv)).drew
         rw [<- hcap] at hc12 ⊢)
    clear hcap
    obtain ⟨W8,hW8⟩ : ∃ W8,W8 = ((((w6.setCell ⟨p,6,none⟩ (.slice Av R'.length cv)).setCell ⟨p,8,none⟩ (.slice (some ⟨w6.heap.size,0,none⟩) E.length (cap))).alloc (.cells (bytesRow Es (cap)) 5 ((bytesRow Es (cap)).size,(bytesRow Es (cap)).size + 1))).drew).drew:=⟨_,rfl⟩
    rw [<- hW8]
    obtain ⟨hL8,hb8⟩:=opened_log W8 HR6.out.1 HR6.out.2.2 (by omega) hp3 HR6.out.2.1 HES.out hc12.1 hc12.2 hW8
    clear hW8 c6 c8 z6 z8 pl pl5 hcv HR6
    have hD8:=HH.out.1.below hb8
    obtain ⟨G8,hG8⟩ : ∃ G8 : Nat -> Prop,G8 = fun b=>w.heap.size <= b /\ b < W8.heap.size:=⟨_,rfl⟩
    rw [<- hG8] at hL8
    have hap8 : ∀ b,F b -> ¬ G8 b:=fun b hf hg=>by rw [hG8] at hg;have:=HH.out.1.lt b hf;omega
    have hT8 : Turn F w (Un F G8) W8:=⟨hb8.os,hb8.tape,hb8.output,hb8.size,fun b hb _=>hb8.block b hb,fun b hb=>hb.imp id fun hb=>by rw [hG8] at hb;exact hb.1⟩
    clear hG8
    have H8:=Lib.hid (And.intro hL8 (And.intro hD8 (And.intro hap8 hT8)))
    clear hL8 hD8 hap8 hT8 hb8
    go_wp2_with fail
    refine (HCl.out _ _ _ _ _ _ H8.out.2.1 H8.out.1 H8.out.2.2.1).mono ?_
    rintro e w9 ⟨rfl,F9,hD9,hT9⟩
    have hL9:=H8.out.1.turn hT9 H8.out.2.2.1
    have hap9:=apart_left hT9 H8.out.2.2.1 H8.out.1.lt
    have hlo9:=HLo.out _ _ hD9
    have H9:=Lib.hid (And.intro hL9 (And.intro hD9 (And.intro hap9 hT9)))
    clear hL9 hD9 hap9 hT9
    go_wp2_with fail
    refine hlo9.mono ?_
    rintro e w10 ⟨rfl,q10,rfl⟩
    go_wp2_with fail
    refine (settle_any (H9.out.1.drewN q10) (by omega) (by omega)).mono ?_
    rintro e w11 ⟨rfl,G11,A11,c11,hL11,hT11⟩
    have H11:=Lib.hid (And.intro hL11 hT11)
    clear hL11 hT11
    go_wp2_with fail
    go_ret2
    have hT10:=Turn.drewN G8 w9 q10
    have hD11:=(H9.out.2.1.drewN q10).turn H11.out.2 H9.out.2.2.1
    have hmem : LgW w11 G11 p d t (hF N t) (hB N t) R' (.slice Av R'.length cv) (0 + E.length / 128) A11 (E.length - 128 * (E.length / 128)) c11 ((encs R').drop (128 * (0 + E.length / 128))):=by
      have:=H11.out.1
      rw [HE.out]
      simp only [Nat.zero_add] at this ⊢
      exact this
    rw [HE.out]
    exact ⟨p,F9,G11,0 + E.length / 128,rfl,⟨hD11,⟨_,_,_,_,hmem⟩,apart_right H11.out.2 H9.out.2.2.1 (H9.out.2.1.drewN q10).lt,HOp.out,by rw [HE.out];omega⟩,((H8.out.2.2.2.trans (H9.out.2.2.2.left G8)).trans ((hT10.trans H11.out.2).right F9))⟩
end
end
end Go.Proofs.YtegjjhjgfkcbhaaGreatDoor
