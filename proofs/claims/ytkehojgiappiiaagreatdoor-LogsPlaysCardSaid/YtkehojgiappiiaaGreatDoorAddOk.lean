/- What Add of package logs does where there is room: the record is the last one. Conditions: those named in each. -/
import Derived.Test.YtkehojgiappiiaaGreatDoorAdd
import Derived.Deep.RegionLaw
set_option linter.unusedVariables false
set_option linter.unusedSimpArgs false
namespace Go.Proofs.YtkehojgiappiiaaGreatDoor
open Go Go.RowKit
/-- A log in memory whose bytes have been put together with others, in a row that it does not hold yet. -/
structure LgC (w : World) (G : Nat → Prop) (p d t f n : Nat) (R : List (List UInt8)) (vr : Value) (st : Nat) (ve vn : Value) (En : List UInt8) : Prop where
  box : Row w p 59 (lcells p d t f n vr st ve)
  rc : OwnL w 0 vr R
  er : ∀ g, vr.ownBlock = some g → g ≠ p ∧ G g
  own : w.ownsRow 0 5 1 vn En.length (Lib.byteCells En)
  eo : ∀ g, vn.ownBlock = some g → g ≠ p ∧ G g ∧ vr.ownBlock ≠ some g
  gp : G p
  lt : ∀ b, G b → b < w.heap.size
section
variable {w w' : World} {F G F' : Nat → Prop} {p d t f n : Nat} {R : List (List UInt8)} {vr : Value} {st : Nat} {A : Option Addr} {m c : Nat} {E En : List UInt8} {ve vn : Value}
theorem LgC.keep (h : LgC w G p d t f n R vr st ve vn En) (hk : ∀ b, G b → w'.heap[b]? = w.heap[b]?) (hs : w.heap.size ≤ w'.heap.size) : LgC w' G p d t f n R vr st ve vn En :=
  { h with
    box := h.box.keep (hk p h.gp)
    rc := own_keep h.rc fun g hg => hk g (h.er g hg).2
    own := own_keep h.own fun g hg => hk g (h.eo g hg).2.1
    lt := fun b hb => by have := h.lt b hb; omega }
theorem LgC.drewN (h : LgC w G p d t f n R vr st ve vn En) (q : Nat) : LgC (w.drewN q) G p d t f n R vr st ve vn En := h.keep (fun _ _ => rfl) (Nat.le_refl _)
theorem LgC.turn (h : LgC w G p d t f n R vr st ve vn En) (T : Turn F w F' w') (ha : ∀ b, F b → ¬ G b) : LgC w' G p d t f n R vr st ve vn En := h.keep (fun b hG => T.block b (h.lt b hG) (fun hF => ha b hF hG)) T.size
/-- Behind an append to its row. -/
theorem LgW.grow (h : LgW w G p d t f n R vr st A m c E) (hown : w'.ownsRow 0 5 1 vn En.length (Lib.byteCells En)) (hg : w.grownBy w' (Value.slice A m c).ownBlock) (ho : vn.ownBlock = (Value.slice A m c).ownBlock ∨ vn.ownBlock = some w.heap.size) :
    LgC w' (fun b => G b ∨ vn.ownBlock = some b) p d t f n R vr st (.slice A m c) vn En ∧ Turn G w (fun b => G b ∨ vn.ownBlock = some b) w' := by
  have hA : ∀ g, (Value.slice A m c).ownBlock = some g → g ≠ p ∧ G g := fun g hg' => by
    rcases A with _ | ad
    · simp [Value.ownBlock] at hg'
    · simp only [Value.ownBlock, Option.some.injEq] at hg'
      have := h.ea ad rfl
      rw [hg'] at this
      exact this
  have hk : ∀ b, b < w.heap.size → (Value.slice A m c).ownBlock ≠ some b → w'.heap[b]? = w.heap[b]? := fun b hb hne => hg.block b hb (fun e => hne e.symm)
  have hlt := h.lt
  have hn : ∀ g, vn.ownBlock = some g → (Value.slice A m c).ownBlock = some g ∨ g = w.heap.size := fun g hg' => by
    rcases ho with e | e
    · exact .inl (e ▸ hg')
    · rw [e] at hg'
      injection hg' with hg'
      exact .inr hg'.symm
  refine ⟨⟨h.box.keep (hk p h.pl (fun e => (hA p e).1 rfl)), own_keep h.rc fun g hg' => hk g (hlt g (h.er g hg').2) (h.ev g hg'), fun g hg' => ⟨(h.er g hg').1, .inl (h.er g hg').2⟩, hown, fun g hg' => ?_, .inl h.gp, fun b hb => ?_⟩, ⟨hg.os, hg.tape, hg.output, hg.size, fun b hb hG => hk b hb (fun e => hG (hA b e).2), fun b hb => ?_⟩⟩
  · rcases hn g hg' with e | e
    · exact ⟨(hA g e).1, .inr hg', fun e2 => h.ev g e2 e⟩
    · have := h.pl
      exact ⟨by omega, .inr hg', fun e2 => by have := hlt g (h.er g e2).2; omega⟩
  · rcases hb with hb | hb
    · have := hlt b hb
      have := hg.size
      omega
    · exact (hown.lt b hb).2
  · rcases hb with hb | hb
    · exact .inl hb
    · rcases hn b hb with e | e
      · exact .inl (hA b e).2
      · exact .inr (by omega)
/-- .. and the row is put into it. -/
theorem LgC.put (h : LgC w G p d t f n R vr st ve vn En) {An : Option Addr} {cn : Nat} (hv : vn = .slice An En.length cn) : LgW (w.setCell ⟨p, 8, none⟩ vn) G p d t f n R vr st An En.length cn En := by
  subst hv
  have hk : ∀ b, b ≠ p → (w.setCell ⟨p, 8, none⟩ (.slice An En.length cn)).heap[b]? = w.heap[b]? := fun b hb => heap_set_ne w ⟨p, 8, none⟩ _ hb
  have ho : (w.setCell ⟨p, 8, none⟩ (.slice An En.length cn)).ownsRow 0 5 1 (.slice An En.length cn) En.length (Lib.byteCells En) := own_keep h.own fun g hg => hk g (h.eo g hg).1
  have hq : En.length ≤ cn ∧ cn ≤ maxLen := by
    obtain ⟨_, _, e, h1, h2⟩ := own_shape h.own
    injection e with _ _ e
    subst e
    exact ⟨h1, h2⟩
  refine ⟨⟨h.box.set 8 _, own_keep h.rc fun g hg => hk g (h.er g hg).1, Reads.of_own ho, hq, h.er, fun ad e => ?_, fun e => ?_, h.gp, fun b hb => by rw [World.size_setCell]; exact h.lt b hb⟩, ho, fun g hg e => (h.eo g e).2.2 hg⟩
  · subst e
    have := h.eo ad.block rfl
    exact ⟨this.1, this.2.1⟩
  · subst e
    rcases h.own.2 with ⟨e, _⟩ | ⟨g, cap, cur, e, _⟩
    · injection e
    · injection e with e _ _
      cases e
/-- Another record behind the others. -/
theorem LgW.record {vr' : Value} {r : List UInt8} (h : LgW w G p d t f n R vr st A m c E) (hown : w'.ownsRow 0 9 1 vr' (R.length + 1) (strL R ++ [.string ⟨r.toArray⟩])) (hg : w.grownBy w' vr.ownBlock) (ho : vr'.ownBlock = vr.ownBlock ∨ vr'.ownBlock = some w.heap.size) :
    LgW (w'.setCell ⟨p, 6, none⟩ vr') (fun b => G b ∨ vr'.ownBlock = some b) p d t f n (R ++ [r]) vr' st A m c E ∧ Turn G w (fun b => G b ∨ vr'.ownBlock = some b) (w'.setCell ⟨p, 6, none⟩ vr') := by
  have hlt := h.lt
  have hsz := hg.size
  have hA : ∀ g, (Value.slice A m c).ownBlock = some g → g ≠ p ∧ G g := fun g hg' => by
    rcases A with _ | ad
    · simp [Value.ownBlock] at hg'
    · simp only [Value.ownBlock, Option.some.injEq] at hg'
      have := h.ea ad rfl
      rw [hg'] at this
      exact this
  have hk : ∀ b, b < w.heap.size → vr.ownBlock ≠ some b → b ≠ p → (w'.setCell ⟨p, 6, none⟩ vr').heap[b]? = w.heap[b]? := fun b hb hne hbp => (heap_set_ne w' ⟨p, 6, none⟩ _ hbp).trans (hg.block b hb (fun e => hne e.symm))
  have hn : ∀ g, vr'.ownBlock = some g → vr.ownBlock = some g ∨ g = w.heap.size := fun g hg' => by
    rcases ho with e | e
    · exact .inl (e ▸ hg')
    · rw [e] at hg'
      injection hg' with hg'
      exact .inr hg'.symm
  have hp : ∀ g, vr'.ownBlock = some g → g ≠ p := fun g hg' => (hn g hg').elim (fun e => (h.er g e).1) (fun e => by have := h.pl; omega)
  have hbx : Row w' p 59 (lcells p d t f n vr st (.slice A m c)) := h.box.keep (hg.block p h.pl (fun e => (h.er p e.symm).1 rfl))
  have hown2 : (w'.setCell ⟨p, 6, none⟩ vr').ownsRow 0 5 1 (.slice A m c) E.length (Lib.byteCells E) := own_keep h.own fun g hg' => hk g (hlt g (hA g hg').2) (fun e => h.ev g e hg') (hA g hg').1
  have hrc : OwnL (w'.setCell ⟨p, 6, none⟩ vr') 0 vr' (R ++ [r]) := by
    unfold OwnL
    rw [← strL_snoc, List.length_append]
    exact own_keep hown fun g hg' => heap_set_ne w' ⟨p, 6, none⟩ _ (hp g hg')
  have hen : Reads (w'.setCell ⟨p, 6, none⟩ vr') (w'.setCell ⟨p, 6, none⟩ vr').heap.size 1 A m (Lib.byteCells E) := by
    have hm := h.len
    subst hm
    exact Reads.of_own hown2
  refine ⟨⟨⟨hbx.set 6 vr', hrc, hen, h.mc, fun g hg' => ⟨hp g hg', .inr hg'⟩, fun ad e => ⟨(h.ea ad e).1, .inl (h.ea ad e).2⟩, h.an, .inl h.gp, fun b hb => ?_⟩, hown2, fun g hg' e => ?_⟩, ⟨hg.os, hg.tape, hg.output, by rw [World.size_setCell]; exact hsz, fun b hb hG => hk b hb (fun e => hG (h.er b e).2) (fun e => hG (e ▸ h.gp)), fun b hb => ?_⟩⟩
  · rw [World.size_setCell]
    rcases hb with hb | hb
    · have := hlt b hb
      omega
    · exact (hown.lt b hb).2
  · rcases hn g hg' with e2 | e2
    · exact h.ev g e2 e
    · have := hlt g (hA g e).2
      omega
  · rcases hb with hb | hb
    · exact .inl hb
    · rcases hn b hb with e | e
      · exact .inl (h.er b e).2
      · exact .inr (by omega)
end
theorem encs_one (R : List (List UInt8)) (r : List UInt8) : encs (R ++ [r]) = encs R ++ enc r := by
  rw [encs_append]
  congr 1
  simp [encs]
section
variable {w w' : World} {F G F' : Nat → Prop} {p d N t st : Nat} {R : List (List UInt8)} {sr : Nat} {su : List ByteArray} {l : List (Nat × ByteArray)}
theorem Disk.grownBy {G G' : Nat → Prop} (h : Disk w F d N su l) (T : Turn G w G' w') (ha : ∀ b, F b → ¬ G b) : Disk w' F d N su l := h.turn T ha
theorem LgW.grow' {G : Nat → Prop} {f n : Nat} {vr vn : Value} {A : Option Addr} {m c : Nat} {E En : List UInt8} (h : LgW w G p d t f n R vr st A m c E) (hown : w'.ownsRow 0 5 1 vn En.length (Lib.byteCells En)) (hg : w.grownBy w' (Value.slice A m c).ownBlock) (ho : vn.ownBlock = (Value.slice A m c).ownBlock ∨ vn.ownBlock = some w.heap.size) :
    ∃ G', LgC w' G' p d t f n R vr st (.slice A m c) vn En ∧ Turn G w G' w' := ⟨_, h.grow hown hg ho⟩
theorem LgW.record' {G : Nat → Prop} {f n : Nat} {vr vr' : Value} {A : Option Addr} {m c : Nat} {E : List UInt8} {r : List UInt8} (h : LgW w G p d t f n R vr st A m c E) (hown : w'.ownsRow 0 9 1 vr' (R.length + 1) (strL R ++ [.string ⟨r.toArray⟩])) (hg : w.grownBy w' vr.ownBlock) (ho : vr'.ownBlock = vr.ownBlock ∨ vr'.ownBlock = some w.heap.size) :
    ∃ G', LgW (w'.setCell ⟨p, 6, none⟩ vr') G' p d t f n (R ++ [r]) vr' st A m c E ∧ Turn G w G' (w'.setCell ⟨p, 6, none⟩ vr') := ⟨_, h.record hown hg ho⟩
theorem LgW.grown6 {G : Nat → Prop} {f n : Nat} {vr : Value} {A : Option Addr} {m c : Nat} {E : List UInt8} (h : LgW w G p d t f n R vr st A m c E) (hg : w.grownBy w' vr.ownBlock) : w'.cell? ⟨p, 6, none⟩ = some vr ∧ w'.frozen? ⟨p, 6, none⟩ = false ∧ p < w'.heap.size := by
  have hb : Row w' p 59 (lcells p d t f n vr st (.slice A m c)) := h.box.keep (hg.block p h.pl (fun e => (h.er p e.symm).1 rfl))
  exact ⟨hb.cell (j := 6) rfl, hb.frozen 6, hb.lt⟩
theorem encs_count (R : List (List UInt8)) : 14 * R.length ≤ (encs R).length := by
  induction R with
  | nil => simp [encs]
  | cons r R ih => rw [encs_cons, List.length_append, enc_len, List.length_cons]; omega
theorem LogD.add (h : LogD N t R sr su l) (r : List UInt8) (hr : r.length ≤ 32768) (hfit : (encs R).length + (r.length + 14) ≤ 128 * hB N t) (i cnt : Nat) (hi : 128 * i ≤ (encs R).length) (hi2 : (encs R).length ≤ 128 * (i + 1)) (hic : i + cnt ≤ hB N t) (hc : (encs (R ++ [r])).length ≤ 128 * (i + cnt)) :
    LogD N t (R ++ [r]) sr su (l ++ layW (setsP l su) (hF N t + i) cnt ((encs (R ++ [r])).drop (128 * i))) := by
  have hn := h.now
  have he := encs_one R r
  have hl : (encs (R ++ [r])).length = (encs R).length + (r.length + 14) := by rw [he, List.length_append, enc_len]
  have htk : ∀ m, m ≤ (encs R).length → (encs (R ++ [r])).take m = (encs R).take m := fun m hm => by rw [he, List.take_append_of_le_length hm]
  obtain ⟨m, h1, h2, h3⟩ := h.way
  refine ⟨h.h4, h.hN, h.ht, fun x hx => ?_, by omega, h.heads, ⟨m, ?_, ?_, ?_⟩, by rw [List.length_append]; have := h.sr; omega⟩
  · rcases List.mem_append.1 hx with hx | hx
    · exact h.small x hx
    · simp only [List.mem_singleton] at hx
      rw [hx]
      exact hr
  · rw [htk m h2.le]
    exact h1
  · have h2' := h2.grow (enc r)
    rw [← he] at h2'
    refine h2'.app (layW_way _ _ _ _ cnt i _ hi hi2 (by omega) hic hc fun j hj1 hj2 => ?_)
    rw [htk _ (Nat.le_refl _), List.take_length]
    exact hn j (by omega)
  · rw [List.take_append_of_le_length h.sr]
    exact h3
set_option maxHeartbeats 8000000 in
set_option maxRecDepth 100000 in
theorem add_ok (h : LogS w F G p d N t st R sr su l) (r : List UInt8) (hr : r.length ≤ 32768) (hfit : (encs R).length + (r.length + 14) ≤ 128 * hB N t) (hl : l.length ≤ 900000) (hT : TabW w) :
    Calls Tryz.prog 8 #[.pointer (some ⟨p, 0, none⟩), .string ⟨r.toArray⟩] w fun e w' => e = .returned (.int .i64 0) ∧ ∃ F' G' l', LogS w' F' G' p d N t st (R ++ [r]) sr su l' ∧ l'.length ≤ l.length + 300 ∧ Turn (Un F G) w (Un F' G') w' := by
  obtain ⟨vr, A, m, c, hM⟩ := h.mem
  have hpos := hT.size
  have hg := lgiven_any hM.toLgR
  obtain ⟨hs1, hs2⟩ := h.stB
  have hF3 := hFB N t h.ok.h4
  have hN := h.ok.hN
  have hsl := h.len
  have hlen := hM.toLgR.len
  have hrm := fun q => log_room (h.drewN q)
  have hjn := fun w1 (hb1 : Below w.heap.size w w1) => join_any [r] (128 * hB N t - (encs R).length) (by omega) _ 1 1 (w1.alloc (.cells #[.string ⟨r.toArray⟩] 9)) (by simpa using one_reads w1 r) (by unfold maxLen; omega) (hT.below (hb1.alloc hb1.size _) hpos)
  have he1 : encs [r] = enc r := by simp [encs]
  have hv : joinV [r] (128 * hB N t - (encs R).length) = .tuple #[.string ⟨(enc r).toArray⟩, .int .i64 0] := by
    have : joinE [r] (128 * hB N t - (encs R).length) = 0 := joinE_ok (fun x hx => by simp only [List.mem_singleton] at hx; rw [hx]; exact hr) (by rw [he1, enc_len]; omega)
    unfold joinV
    rw [this, if_pos rfl, he1]
  simp only [hv] at hjn
  -- the bytes, and where they go
  obtain ⟨k, hk⟩ : ∃ k, k = m / 128 := ⟨_, rfl⟩
  have hkz : (m : Int) / 128 = (k : Int) := by omega
  have henl := enc_len r
  have hEn : (encs R).drop (128 * st) ++ enc r = (encs (R ++ [r])).drop (128 * st) := by rw [encs_one, List.drop_append_of_le_length h.stE]
  obtain ⟨En, hEn'⟩ : ∃ En, En = (encs R).drop (128 * st) ++ enc r := ⟨_, rfl⟩
  have hEl : En.length = m + (r.length + 14) := by rw [hEn', List.length_append, henl, hlen]
  obtain ⟨S, hS⟩ : ∃ S, S = En.drop (128 * k) := ⟨_, rfl⟩
  have hS2 : S = (encs (R ++ [r])).drop (128 * (st + k)) := by rw [hS, hEn', hEn, List.drop_drop]; congr 1; omega
  have hSl : S.length = m + (r.length + 14) - 128 * k := by rw [hS, List.length_drop, hEl]
  obtain ⟨cnt, hcnt⟩ : ∃ cnt, cnt = (S.length + 127) / 128 := ⟨_, rfl⟩
  have hcn : cnt ≤ 260 := by omega
  have htot : (encs (R ++ [r])).length = (encs R).length + (r.length + 14) := by rw [encs_one, List.length_append, henl]
  have hok := h.ok.add r hr hfit (st + k) cnt (by omega) (by omega) (by omega) (by omega)
  rw [← hS2] at hok
  have hll := layW_len (setsP l su) cnt (hF N t + (st + k)) S
  have hlay := fun w1 F1 (hD : Disk w1 F1 d N su l) => lay_any hD (hF N t) (hB N t) (st + k) cnt ⟨S.toArray⟩ (by omega) hN (by omega) (by show S.length ≤ _; omega)
  rw [show (⟨S.toArray⟩ : ByteArray).data.toList = S from rfl] at hlay
  generalize layW (setsP l su) (hF N t + (st + k)) cnt S = WW at *
  have hblk := fun w => blocksOf_any ⟨S.toArray⟩ (by show S.length ≤ _; omega) w
  rw [show (((⟨S.toArray⟩ : ByteArray).size + 127) / 128 : Nat) = cnt from hcnt.symm] at hblk
  rw [Int.natCast_add] at hlay
  have hcl := fun w => clone_any ⟨r.toArray⟩ (by show r.length ≤ _; omega) w
  obtain ⟨i0, hi, hz0, hz1, hz2⟩ := info_parts byte_row
  obtain ⟨i1, hi1, hy0, hy1, hy2⟩ := info_parts str_row
  have HG := Lib.hid hg
  have HR := Lib.hid hrm
  have HJ := Lib.hid hjn
  have HM := Lib.hid hM
  have HD := Lib.hid h.disk
  have HA := Lib.hid h.apart
  have HO := Lib.hid (And.intro hok hll)
  have HL := Lib.hid hlay
  have HB := Lib.hid hblk
  have HC := Lib.hid hcl
  have hfin : ∀ w1 F1 G1 vr1 A1 m1 c1, Disk w1 F1 d N su (l ++ WW) → LgW w1 G1 p d t (hF N t) (hB N t) (R ++ [r]) vr1 st A1 m1 c1 En → (∀ b, F1 b → ¬ G1 b) → LogS w1 F1 G1 p d N t st (R ++ [r]) sr su (l ++ WW) :=
    fun w1 F1 G1 vr1 A1 m1 c1 k1 k2 k3 => ⟨k1, ⟨vr1, A1, m1, c1, by rw [← hEn, ← hEn']; exact k2⟩, k3, hok, by have := h.stE; omega⟩
  have HF := Lib.hid hfin
  have HEN : Hid (∀ (w' : World) (v' : Value), w'.ownsRow 0 5 1 v' (((encs R).drop (128 * st)).length + (⟨(enc r).toArray⟩ : ByteArray).size) (Lib.byteCells ((encs R).drop (128 * st)) ++ Lib.strCells ⟨(enc r).toArray⟩) → w'.ownsRow 0 5 1 v' En.length (Lib.byteCells En)) := Lib.hid fun w' v' hx => by
    rw [hEn', List.length_append, Lib.byteCells_append]
    exact hx
  have HSL : Hid (∀ (w' : World) (A' : Option Addr) (c' : Nat), w'.ownsRow 0 5 1 (.slice A' En.length c') En.length (Lib.byteCells En) → ∃ ad, A' = some ad ∧ ¬ c' = k * 128 ∧ (k : Int) * 128 ≤ (c' : Int) ∧ (convert 55 9 (.slice (some (ad.add (k * 128))) (En.length - k * 128) (c' - k * 128))).run Tryz.prog w' = .ok (.string ⟨S.toArray⟩) w') := Lib.hid fun w' A' c' hx => by
    obtain ⟨A2, c2, e, h1, h2⟩ := own_shape hx
    injection e with _ _ e
    subst e
    obtain ⟨g, cap, e, _⟩ := hx.form (by omega)
    injection e with e _ _
    subst e
    refine ⟨_, rfl, by omega, by omega, ?_⟩
    have hrc := (Reads.of_own hx).cut (k := 128 * k) (cap := c') (by omega) h1
    rw [if_neg (by omega), Nat.mul_one, byteCells_drop, Option.map_some, ← hS, show 128 * k = k * 128 by omega] at hrc
    exact conv_reads hrc (c' - k * 128) 55 9 Tryz.underlying55 Tryz.underlying9
  have hfs : (⟨(enc r).toArray⟩ : ByteArray).size = r.length + 14 := henl
  have hfz : (⟨(enc r).toArray⟩ : ByteArray).size ≤ 40000 := by omega
  have hmz : (m : Int) ≤ 3000000 := by omega
  have hRl : R.length ≤ 200000 := by have := encs_count R; have := h.ok.fit; omega
  have hkm : (k : Int) * 128 ≤ (m : Int) := by omega
  have hkl : (k : Int) * 128 ≤ (En.length : Int) := by omega
  have hsk : (st : Int) + (k : Int) ≤ 100000 := by omega
  have hm1 : ((encs R).drop (128 * st)).length + (⟨(enc r).toArray⟩ : ByteArray).size ≤ 3100000 := by omega
  have hLz : (En.length : Int) ≤ 3100000 := by omega
  have hf0 : (0 : Int) ≤ (k : Int) * 128 := by omega
  have hkt : ((k : Int) * 128).toNat = k * 128 := by omega
  clear hg hrm hjn hM hok hll hlay hblk hcl hfin h hT hv he1 hS hS2 hEn hEn' hEl hSl hcnt htot hk hlen hsl hF3 hfit hs1 hs2 hfs henl hr
  unfold halfV at HL
  generalize (⟨(enc r).toArray⟩ : ByteArray) = fs at *
  generalize hrs : (⟨r.toArray⟩ : ByteArray) = rs at *
  have HRS := Lib.hid hrs
  generalize (⟨S.toArray⟩ : ByteArray) = Ss at *
  generalize hEE : (encs R).drop (128 * st) = E at *
  clear hrs hEE
  go_enter Tryz.func8, Tryz.ntmps8
  go_wp2_with fail
  refine HG.out.mono ?_
  rintro e w1 ⟨rfl, q, rfl⟩
  go_wp2_with fail
  refine (HR.out q).mono ?_
  rintro e w2 ⟨rfl, hb2⟩
  have hb2' := (below_drewN (Below.refl _ w) q).trans hb2
  go_wp2_with fail
  refine (HJ.out w2 hb2').mono ?_
  rintro e w3 ⟨rfl, hb3⟩
  have hb3' := (hb2'.alloc hb2'.size (.cells #[.string rs] 9)).trans (hb3.mono (B' := w.heap.size) (by have := hb2'.size; simp; omega))
  have hM3 := HM.out.below hb3'
  have c8 := hM3.c8
  have pl := hM3.pl
  have HM3 := Lib.hid (And.intro hM3 (HD.out.below hb3'))
  have HB3 := Lib.hid hb3'
  clear hb2 hb2' hb3 hb3' hM3
  go_wp2_with (at_builtin; go_loud (refine wpList_append_str rfl (.tmp 28) (.tmp 29) 55 9 rfl 0 5 i0 Tryz.underlying55 Tryz.underlying9 hi hz0 hz1 hz2 _ E.length _ rfl HM3.out.1.own fs rfl (by unfold maxLen; omega) (by omega) (Nat.zero_le _) ?_; intro v4 w4 hown4 hg4 ho4; replace hown4 := HEN.out _ _ hown4; obtain ⟨A4, cp, rfl, hq1, hq2⟩ := own_shape hown4; obtain ⟨ad, rfl, hck, hkc, hcv⟩ := HSL.out _ _ _ hown4; obtain ⟨G4, hX4⟩ := HM3.out.1.grow' hown4 hg4 ho4; replace hX4 := Lib.hid hX4; have c8' := hX4.out.1.box.cell (j := 8) rfl; have pl4 := hX4.out.1.box.lt; have hq3 := Lib.hid (And.intro hq1 hq2); clear hq1 hq2 hown4 hg4 ho4))
  have c3 := hX4.out.1.box.cell (j := 3) rfl
  have c4 := hX4.out.1.box.cell (j := 4) rfl
  have c5 := hX4.out.1.box.cell (j := 5) rfl
  have c7 := hX4.out.1.box.cell (j := 7) rfl
  go_wp2_with fail
  have hw1 : IntKind.i64.wrap ((st : Int) + (k : Int)) = (st : Int) + (k : Int) := by simp only [IntKind.wrap_i64]; omega
  go_region_held3 (fun w' => w'.cell? ⟨p, 3, none⟩ = some (.pointer (some ⟨d, 0, none⟩)) ∧ w'.cell? ⟨p, 4, none⟩ = some (.int .i64 ((hF N t : Nat) : Int)) ∧ w'.cell? ⟨p, 5, none⟩ = some (.int .i64 ((hB N t : Nat) : Int)) ∧ w'.cell? ⟨p, 7, none⟩ = some (.int .i64 (st : Int)))
    (first | exact ⟨d3, d4, d5, d7⟩ | exact ⟨c3, c4, c5, c7⟩)
    (first
      | (go_at_call 24; refine (HB.out _).mono ?_; rintro e w9 ⟨rfl, rfl⟩)
      | (go_at_call 23; refine (HL.out _ _ ((HM3.out.2.grownBy hX4.out.2 HA.out).drewN 1)).mono ?_; rintro e w5 ⟨rfl, F5, hD5, hT5⟩; have H5 := (hX4.out.1.drewN 1).turn hT5 (apart_right hX4.out.2 HA.out HM3.out.2.lt); have d3 := H5.box.cell (j := 3) rfl; have d4 := H5.box.cell (j := 4) rfl; have d5 := H5.box.cell (j := 5) rfl; have d7 := H5.box.cell (j := 7) rfl))
  have e8 := H5.box.cell (j := 8) rfl
  have y8 := H5.box.frozen 8
  have pl5 := H5.box.lt
  have hap5 := apart_left (((Turn.drewN F _ 1).trans hT5)) (apart_right hX4.out.2 HA.out HM3.out.2.lt) (fun b hb => hX4.out.1.lt b hb)
  have HY := Lib.hid (And.intro H5 (And.intro hD5 (And.intro hT5 hap5)))
  clear H5 hD5 hT5 hap5 c3 c4 c5 c7 c8 d3 d4 d5 d7 c8' pl4 pl hw1
  go_wp2_with fail
  have hL6 := HY.out.1.put rfl
  have hT6 := Turn.set G4 w5 (a := ⟨p, 8, none⟩) HY.out.1.gp (.slice (some ad) En.length cp)
  obtain ⟨W6, hW6⟩ : ∃ W6, W6 = w5.setCell ⟨p, 8, none⟩ (.slice (some ad) En.length cp) := ⟨_, rfl⟩
  rw [← hW6] at hL6 hT6 ⊢
  clear hW6
  have c6 := hL6.c6
  have HZ := Lib.hid (And.intro hL6 hT6)
  clear hL6 hT6 e8 y8 pl5
  have pl6 := HZ.out.1.pl
  go_region_law (first
      | (refine step_append_lies _ rfl (.tmp 67) (.tmp 70) 23 rfl 0 9 i1 _ 1 16 Tryz.underlying23 hi1 hy0 hy1 hy2 rfl (by decide) vr R.length (strL R) rfl HLA.out.rc ⟨w9.heap.size, 0, none⟩ 1 1 [.string rs] rfl rfl (news_cells w9 #[.string rs] 9) (by intro u hu; simp at hu; subst hu; rfl) (by omega) (by unfold maxLen; omega) (by omega) (Nat.zero_le _) (w9.alloc (.cells #[.string rs] 9)).heap.size rfl ?_; intro g cap w10 hown10 hg10 ho10 hlt10; obtain ⟨d6', z6', pl10⟩ := HLA.out.grown6 hg10)
      | (go_simp; go_at_call 25; refine (HC.out _).mono ?_; rintro e w9 ⟨rfl, hb9⟩; have HL9 := Lib.hid ((HZ.out.1.drewN 1).below hb9); have HLA := Lib.hid (HL9.out.below ((Below.refl _ _).alloc (Nat.le_refl _) (.cells #[.string rs] 9))); have d6 := HL9.out.c6; have pl9 := HL9.out.pl; have HB9 := Lib.hid hb9; clear hb9))
  all_goals
    have hwn : w10.ownsRow 0 9 1 (.slice (some ⟨g, 0, none⟩) (R.length + 1) cap) (R.length + 1) (strL R ++ [.string ⟨r.toArray⟩]) := by rw [HRS.out]; exact hown10
    obtain ⟨G10, hL10, hT10⟩ := HLA.out.record' hwn hg10 (ho10.imp (fun e => e.symm) (fun e => by rw [e]; rfl))
    have HV := Lib.hid (And.intro hL10 hT10)
    clear hL10 hT10 hwn d6 pl9
    go_wp2_with fail
    go_ret
    have hb9 := HB9.out
    have hbA : Below W6.heap.size W6 (w9.alloc (.cells #[.string rs] 9)) := ((below_drewN (Below.refl _ W6) 1).trans hb9).alloc hb9.size _
    have hD6 := HY.out.2.1.turn HZ.out.2 HY.out.2.2.2
    have hD9 := hD6.below hbA
    have hD10 := hD9.turn HV.out.2 HY.out.2.2.2
    have T1 : Turn (Un F G) w (Un F G) w3 := Turn.below _ HB3.out
    have T2 := T1.trans (hX4.out.2.right F)
    have T3 := T2.trans (((Turn.drewN F w4 1).trans HY.out.2.2.1).left G4)
    have T4 := (T3.trans (HZ.out.2.right F5)).trans (Turn.below _ hbA)
    have T5 := T4.trans (HV.out.2.right F5)
    exact ⟨rfl, F5, G10, _, HF.out _ _ _ _ _ _ _ hD10 HV.out.1 (apart_right HV.out.2 HY.out.2.2.2 hD9.lt), by rw [List.length_append]; have := HO.out.2; omega, T5⟩
end
end Go.Proofs.YtkehojgiappiiaaGreatDoor
