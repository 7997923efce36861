/- What Open of package logs returns: the log of a disk, with the records whose frames are whole there. Conditions: a disk in memory without loose writes, on which a log's records begin. -/
import Derived.Test.YtkehojgiappiiaaGreatDoorOpenA
import Derived.Lib.ConvBytes
set_option linter.unusedVariables false
set_option linter.unusedSimpArgs false
namespace Go.Proofs.YtkehojgiappiiaaGreatDoor
open Go Go.RowKit
theorem hB_half (N t : Nat) : 2 * hB N t ≤ N := by
  unfold hB
  split <;> omega
theorem bytes_reads (w : World) (s : ByteArray) (cap : Nat) (fr : Nat × Nat) : Reads (w.alloc (.cells (bytesRow s cap) 5 fr)) (w.heap.size + 1) 1 (some ⟨w.heap.size, 0, none⟩) s.size (Lib.byteCells s.data.toList) := by
  refine ⟨by rw [Lib.byteCells_length, size_list, Nat.mul_one], fun _ => ⟨_, rfl, by simp, fun j u hu => ?_⟩⟩
  rw [add_flat, Nat.zero_add]
  have hb : (w.alloc (.cells (bytesRow s cap) 5 fr)).heap[w.heap.size]? = some (.cells (bytesRow s cap) 5 fr) := by
    show (w.heap.push _)[w.heap.size]? = _
    simp
  simp only [World.cell?, hb]
  unfold bytesRow
  have hj : j < s.data.size := by
    have := (List.getElem?_eq_some_iff.1 hu).1
    rw [Lib.byteCells_length] at this
    simpa using this
  rw [Array.getElem?_append_left (by simpa using hj)]
  unfold Lib.byteCells at hu
  simpa using hu
theorem own_base {w : World} {base base' : Nat} {e : TypeId} {size : Nat} {v : Value} {n : Nat} {xs : List Value} (h : w.ownsRow base e size v n xs) (hb : base' ≤ base) : w.ownsRow base' e size v n xs :=
  ⟨h.1, h.2.imp id fun ⟨g, cap, cur, h1, h2, r⟩ => ⟨g, cap, cur, h1, Nat.le_trans hb h2, r⟩⟩
/-- The log as Open has laid it. -/
theorem opened_log {w w6 : World} {p d t f n : Nat} {R : List (List UInt8)} {v : Value} {B : Nat} {E : List UInt8} {Es : ByteArray} {cap : Nat} {fr : Nat × Nat} (W : World)
    (hrow : Row w6 p 59 (lcells p d t f n (.slice none 0 0) 0 (.slice none 0 0))) (hv : w6.ownsRow B 9 1 v R.length (strL R)) (hB : p < B) (hp : w.heap.size ≤ p) (hb : Below w.heap.size w w6) (hE : Es.data.toList = E) (h1 : E.length ≤ cap) (h2 : cap ≤ maxLen)
    (hW : W = ((((w6.setCell ⟨p, 6, none⟩ v).setCell ⟨p, 8, none⟩ (.slice (some ⟨w6.heap.size, 0, none⟩) E.length cap)).alloc (.cells (bytesRow Es cap) 5 fr)).drew).drew) :
    LgR W (fun b => w.heap.size ≤ b ∧ b < W.heap.size) p d t f n R v 0 (some ⟨w6.heap.size, 0, none⟩) E.length cap E ∧ Below w.heap.size w W := by
  have hpl := hrow.lt
  have hsz : W.heap.size = w6.heap.size + 1 := by rw [hW]; simp [World.drew]
  have hesz : Es.size = E.length := by rw [← hE, size_list]
  have hk : ∀ b, b < w6.heap.size → b ≠ p → W.heap[b]? = w6.heap[b]? := fun b hbl hbp => by
    rw [hW]
    show (((w6.setCell ⟨p, 6, none⟩ v).setCell ⟨p, 8, none⟩ _).alloc _).heap[b]? = _
    rw [heap_alloc_lt _ _ (by simpa using hbl), heap_set_ne _ ⟨p, 8, none⟩ _ hbp, heap_set_ne _ ⟨p, 6, none⟩ _ hbp]
  refine ⟨⟨?_, own_keep (own_base hv (Nat.zero_le _)) fun g hg => hk g (hv.lt g hg).2 (by have := (hv.lt g hg).1; omega), ?_, ⟨h1, h2⟩, fun g hg => ?_, fun ad e => ?_, fun e => (by cases e), ⟨hp, by omega⟩, fun b hb => hb.2⟩, ?_⟩
  · have h3 := (hrow.set 6 v).set 8 (.slice (some ⟨w6.heap.size, 0, none⟩) E.length cap)
    have h4 : Row W p 59 _ := h3.keep (w' := W) (by
      rw [hW]
      show (((w6.setCell ⟨p, 6, none⟩ v).setCell ⟨p, 8, none⟩ _).alloc _).heap[p]? = _
      rw [heap_alloc_lt _ _ (by simpa using hpl)])
    exact h4
  · have h3 := bytes_reads ((w6.setCell ⟨p, 6, none⟩ v).setCell ⟨p, 8, none⟩ (.slice (some ⟨w6.heap.size, 0, none⟩) E.length cap)) Es cap fr
    rw [hesz, hE] at h3
    have h4 : Reads W (w6.heap.size + 1) 1 (some ⟨w6.heap.size, 0, none⟩) E.length (Lib.byteCells E) := by
      rw [hW]
      simp only [World.size_setCell] at h3
      exact h3.drew.drew
    rw [hsz]
    exact h4
  · have := hv.lt g hg
    exact ⟨by omega, by omega, by omega⟩
  · injection e with e
    subst e
    exact ⟨by show w6.heap.size ≠ p; omega, by show w.heap.size ≤ w6.heap.size; omega, by show w6.heap.size < _; omega⟩
  · rw [hW]
    have h5 := below_setCell (below_setCell hb (p := ⟨p, 6, none⟩) hp v) (p := ⟨p, 8, none⟩) hp (.slice (some ⟨w6.heap.size, 0, none⟩) E.length cap)
    exact ((h5.alloc h5.size _).drew).drew
section
variable {w w' : World} {F G F' : Nat → Prop} {p d N t m : Nat} {R : List (List UInt8)} {su : List ByteArray}
set_option maxHeartbeats 8000000 in
set_option maxRecDepth 100000 in
theorem open_any (h : Disk w F d N su []) (hd : DiskD N t R m su) (hN4 : N ≤ 4000) (hT : TabW w) : Calls Tryz.prog 13 #[.pointer (some ⟨d, 0, none⟩)] w fun e w' =>
    ∃ p F' G' st', e = .returned (.tuple #[.pointer (some ⟨p, 0, none⟩), .int .i64 0]) ∧ LogS w' F' G' p d N t st' (R.take (wh R m)) (R.take (wh R m)).length (setsP (cleanW N t (encs (R.take (wh R m))) su) su) [] ∧ Turn F w (Un F' G') w' := by
  have hpos := hT.size
  have hF3 := hFB N t hd.h4
  have hN := hd.hN
  have h4 := hd.h4
  have hlenN := h.len
  have hop := hd.opened hlenN
  have hrd := hd.reads
  have hal := hd.all
  have hfit := hop.fit
  obtain ⟨a, b, ha, hb, hab⟩ := hd.heads
  have hbl := a_blocks h
  have hlt := fun q => lastTurn_any (h.drewN q) h4 a b ha hb hT
  rw [hab] at hlt
  have hho := fun w1 (hb1 : Below w.heap.size w w1) => halfOf_any (h.below hb1) t (by have := hd.ht; omega) h4 hN
  have hhr := fun w1 (hb1 : Below w.heap.size w w1) => hread_any (h.below hb1) (hF N t) (hB N t) hF3.2.1 hN
  rw [show setsP [] su = su from rfl, hrd] at hhr
  have hps : (⟨((encs R).take m).toArray⟩ : ByteArray).size ≤ 300000 := by
    show ((encs R).take m).length ≤ _
    rw [List.length_take]
    have := hd.fit
    have := hB_half N t
    omega
  have haa := fun w1 (hb1 : Below w.heap.size w w1) => all_any ⟨((encs R).take m).toArray⟩ hps w1 (hT.below hb1 hpos)
  rw [show (⟨((encs R).take m).toArray⟩ : ByteArray).data.toList = (encs R).take m from rfl, hal] at haa
  have hwl := wh_len R m
  have hcut := encs_cut R (wh R m) m hwl.2
  have hEl : (encs (R.take (wh R m))).length ≤ ((encs R).take m).length := by
    have := congrArg List.length hcut
    rw [List.length_take] at this
    omega
  have hex : (⟨((encs R).take m).toArray⟩ : ByteArray).extract 0 (encs (R.take (wh R m))).length = ⟨(encs (R.take (wh R m))).toArray⟩ := by
    refine bytes_ext ?_
    rw [Lib.extract_data, List.drop_zero, Nat.sub_zero]
    exact hcut.symm
  have hes : (⟨(encs (R.take (wh R m))).toArray⟩ : ByteArray).data.toList = encs (R.take (wh R m)) := rfl
  have hsz : (⟨(encs (R.take (wh R m))).toArray⟩ : ByteArray).size = (encs (R.take (wh R m))).length := rfl
  have hfit2 : (encs (R.take (wh R m))).length ≤ 128 * hB N t := hfit
  have hlo := fun w1 F1 (k : Disk w1 F1 d N (setsP (cleanW N t (encs (R.take (wh R m))) su) su) []) => a_loose k
  unfold AllPost at haa
  simp only at haa
  have hcr : (cleanR su [] (cleanW N t (encs (R.take (wh R m))) su)).1 = setsP (cleanW N t (encs (R.take (wh R m))) su) su ∧ (cleanR su [] (cleanW N t (encs (R.take (wh R m))) su)).2 = [] := by
    unfold cleanR
    split
    next e => rw [e]; exact ⟨rfl, rfl⟩
    next e => exact ⟨by rw [List.nil_append], rfl⟩
  generalize R.take (wh R m) = R' at *
  obtain ⟨E, hE⟩ : ∃ E, encs R' = E := ⟨_, rfl⟩
  have hcln : ∀ w1 G1 p1 v ad c, Disk w1 F d N su [] → LgR w1 G1 p1 d t (hF N t) (hB N t) R' v 0 (some ad) E.length c E → (∀ b, F b → ¬ G1 b) → Calls Tryz.prog 43 #[.pointer (some ⟨p1, 0, none⟩)] w1 fun e w' => e = .returned (.int .i64 0) ∧ ∃ F', Disk w' F' d N (setsP (cleanW N t E su) su) [] ∧ Turn F w1 F' w' := fun w1 G1 p1 v ad c k1 k2 k3 => by
    have hc := clean_any k1 k2 k3 hF3.2.1 hN (by rw [hE] at hfit2; exact hfit2) (by simp; omega)
    have h2 := hcr
    rw [hE] at h2
    unfold cleanW at h2
    rw [show setsP [] su = su from rfl, h2.1, h2.2] at hc
    exact hc
  rw [hE] at haa hex hsz hfit2 hlo hop hEl hes
  clear hcr hcut hwl hal hrd ha hb hfit h4 hps
  have HBl := Lib.hid hbl
  have HLt := Lib.hid hlt
  have HHo := Lib.hid hho
  have HHr := Lib.hid hhr
  have HAa := Lib.hid haa
  have HEx := Lib.hid hex
  have HCl := Lib.hid hcln
  have HLo := Lib.hid hlo
  have HOp := Lib.hid hop
  have HE := Lib.hid hE
  have HH := Lib.hid (And.intro h hT)
  have hNz : ((N : Int) == 0) = false := by rw [beq_eq_false_iff_ne]; have := hd.h4; omega
  have hex1 : (0 : Int) ≤ (E.length : Int) := by omega
  have hex2 : E.length ≤ (⟨((encs R).take m).toArray⟩ : ByteArray).size := hEl
  clear hbl hlt hho hhr haa hex hcln hlo hop hE h hT hd
  unfold halfV at HHo HHr
  generalize (⟨((encs R).take m).toArray⟩ : ByteArray) = P at *
  generalize (⟨E.toArray⟩ : ByteArray) = Es at *
  have HES := Lib.hid hes
  clear hes
  have hez : (E.length : Int) ≤ (P.size : Int) := by omega
  obtain ⟨ne, hne⟩ : ∃ ne, ne = E.length := ⟨_, rfl⟩
  go_enter Tryz.func13, Tryz.ntmps13
  go_wp2_with fail
  refine HBl.out.mono ?_
  rintro e w1 ⟨rfl, q, rfl⟩
  go_wp2_with fail
  refine (HLt.out q).mono ?_
  rintro e w2 ⟨rfl, hb2⟩
  have hb2' := (below_drewN (Below.refl _ w) q).trans hb2
  go_wp2_with fail
  refine (HHo.out _ hb2').mono ?_
  rintro e w3 ⟨rfl, hb3⟩
  have hb3' := hb2'.trans (hb3.mono (B' := w.heap.size) hb2'.size)
  go_wp2_with fail
  have hrow : Row (w3.alloc (.cells (lcells w3.heap.size d t (hF N t) (hB N t) (.slice none 0 0) 0 (.slice none 0 0)).toArray 59)) w3.heap.size 59 (lcells w3.heap.size d t (hF N t) (hB N t) (.slice none 0 0) 0 (.slice none 0 0)) := Row.new w3 _ _
  have hb4 : Below w.heap.size w (w3.alloc (.cells (lcells w3.heap.size d t (hF N t) (hB N t) (.slice none 0 0) 0 (.slice none 0 0)).toArray 59)) := hb3'.alloc hb3'.size _
  change Calls _ _ _ (w3.alloc (.cells (lcells w3.heap.size d t (hF N t) (hB N t) (.slice none 0 0) 0 (.slice none 0 0)).toArray 59)) _
  have hp3 : w.heap.size ≤ w3.heap.size := hb3'.size
  generalize w3.alloc (.cells (lcells w3.heap.size d t (hF N t) (hB N t) (.slice none 0 0) 0 (.slice none 0 0)).toArray 59) = w4 at hrow hb4 ⊢
  generalize w3.heap.size = p at *
  clear hb2 hb2' hb3 hb3'
  refine (HHr.out _ hb4).mono ?_
  rintro e w5 ⟨rfl, hb5⟩
  have hrow5 := hrow.keep (hb5.block p hrow.lt)
  have hb5' := hb4.trans (hb5.mono (B' := w.heap.size) hb4.size)
  have HR5 := Lib.hid (And.intro hrow5 hb5')
  clear hrow hrow5 hb4 hb5 hb5'
  go_wp2_with fail
  refine (HAa.out _ HR5.out.2).mono ?_
  rintro e w6 ⟨v, rfl, hv6, hb6⟩
  obtain ⟨Av, cv, rfl, hq1, hq2⟩ := own_shape hv6
  have hrow6 := HR5.out.1.keep (hb6.block p HR5.out.1.lt)
  have hb6' := HR5.out.2.trans (hb6.mono (B' := w.heap.size) HR5.out.2.size)
  have c6 := hrow6.cell (j := 6) rfl
  have c8 := hrow6.cell (j := 8) rfl
  have z6 := hrow6.frozen 6
  have z8 := hrow6.frozen 8
  have pl := hrow6.lt
  have pl5 := HR5.out.1.lt
  have hcv : ∀ W, (convert 9 55 (.string (P.extract 0 E.length))).run Tryz.prog W = .ok (.slice (some ⟨W.heap.size, 0, none⟩) Es.size (grownCap W Es.size 0 5)) (W.drew.alloc (.cells (bytesRow Es (grownCap W Es.size 0 5)) 5 ((bytesRow Es (grownCap W Es.size 0 5)).size, (bytesRow Es (grownCap W Es.size 0 5)).size + 1))) := fun W => by
    rw [HEx.out]
    exact run_bytes_of_string W 9 55 5 Es Tryz.underlying9 Tryz.underlying55 Tryz.underlying5
  have HR6 := Lib.hid (And.intro hrow6 (And.intro hb6' hv6))
  clear hrow6 hb6' hv6 hb6 hq1 hq2
  go_wp2_with fail
  have hcg : ∀ W, E.length ≤ grownCap W E.length 0 5 ∧ grownCap W E.length 0 5 ≤ maxLen := fun W => ⟨grownCap_ge .., grownCap_le_maxLen _ _ _ _ (by unfold maxLen; omega)⟩
  go_region
  all_goals
    first
      | (obtain ⟨cap, hcap⟩ : ∃ cap, cap = grownCap w6.drew E.length 0 5 := ⟨_, rfl⟩
         have hc12 := hcg w6.drew
         rw [← hcap] at hc12 ⊢)
      | (obtain ⟨cap, hcap⟩ : ∃ cap, cap = grownCap (w6.setCell ⟨p, 6, none⟩ (.slice Av R'.length cv)).drew E.length 0 5 := ⟨_, rfl⟩
         have hc12 := hcg (w6.setCell ⟨p, 6, none⟩ (.slice Av R'.length cv)).drew
         rw [← hcap] at hc12 ⊢)
    clear hcap
    obtain ⟨W8, hW8⟩ : ∃ W8, W8 = ((((w6.setCell ⟨p, 6, none⟩ (.slice Av R'.length cv)).setCell ⟨p, 8, none⟩ (.slice (some ⟨w6.heap.size, 0, none⟩) E.length (cap))).alloc (.cells (bytesRow Es (cap)) 5 ((bytesRow Es (cap)).size, (bytesRow Es (cap)).size + 1))).drew).drew := ⟨_, rfl⟩
    rw [← hW8]
    obtain ⟨hL8, hb8⟩ := opened_log W8 HR6.out.1 HR6.out.2.2 (by omega) hp3 HR6.out.2.1 HES.out hc12.1 hc12.2 hW8
    clear hW8 c6 c8 z6 z8 pl pl5 hcv HR6
    have hD8 := HH.out.1.below hb8
    obtain ⟨G8, hG8⟩ : ∃ G8 : Nat → Prop, G8 = fun b => w.heap.size ≤ b ∧ b < W8.heap.size := ⟨_, rfl⟩
    rw [← hG8] at hL8
    have hap8 : ∀ b, F b → ¬ G8 b := fun b hf hg => by rw [hG8] at hg; have := HH.out.1.lt b hf; omega
    have hT8 : Turn F w (Un F G8) W8 := ⟨hb8.os, hb8.tape, hb8.output, hb8.size, fun b hb _ => hb8.block b hb, fun b hb => hb.imp id fun hb => by rw [hG8] at hb; exact hb.1⟩
    clear hG8
    have H8 := Lib.hid (And.intro hL8 (And.intro hD8 (And.intro hap8 hT8)))
    clear hL8 hD8 hap8 hT8 hb8
    go_wp2_with fail
    refine (HCl.out _ _ _ _ _ _ H8.out.2.1 H8.out.1 H8.out.2.2.1).mono ?_
    rintro e w9 ⟨rfl, F9, hD9, hT9⟩
    have hL9 := H8.out.1.turn hT9 H8.out.2.2.1
    have hap9 := apart_left hT9 H8.out.2.2.1 H8.out.1.lt
    have hlo9 := HLo.out _ _ hD9
    have H9 := Lib.hid (And.intro hL9 (And.intro hD9 (And.intro hap9 hT9)))
    clear hL9 hD9 hap9 hT9
    go_wp2_with fail
    refine hlo9.mono ?_
    rintro e w10 ⟨rfl, q10, rfl⟩
    go_wp2_with fail
    refine (settle_any (H9.out.1.drewN q10) (by omega) (by omega)).mono ?_
    rintro e w11 ⟨rfl, G11, A11, c11, hL11, hT11⟩
    have H11 := Lib.hid (And.intro hL11 hT11)
    clear hL11 hT11
    go_wp2_with fail
    go_ret2
    have hT10 := Turn.drewN G8 w9 q10
    have hD11 := (H9.out.2.1.drewN q10).turn H11.out.2 H9.out.2.2.1
    have hmem : LgW w11 G11 p d t (hF N t) (hB N t) R' (.slice Av R'.length cv) (0 + E.length / 128) A11 (E.length - 128 * (E.length / 128)) c11 ((encs R').drop (128 * (0 + E.length / 128))) := by
      have := H11.out.1
      rw [HE.out]
      simp only [Nat.zero_add] at this ⊢
      exact this
    rw [HE.out]
    exact ⟨p, F9, G11, 0 + E.length / 128, rfl, ⟨hD11, ⟨_, _, _, _, hmem⟩, apart_right H11.out.2 H9.out.2.2.1 (H9.out.2.1.drewN q10).lt, HOp.out, by rw [HE.out]; omega⟩, ((H8.out.2.2.2.trans (H9.out.2.2.2.left G8)).trans ((hT10.trans H11.out.2).right F9))⟩
end
end Go.Proofs.YtkehojgiappiiaaGreatDoor
