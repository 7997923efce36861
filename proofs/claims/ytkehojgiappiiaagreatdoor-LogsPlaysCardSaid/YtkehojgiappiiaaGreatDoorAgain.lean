/- What a log's calls leave alone: a block that is none of the log's stays as it is through Add, Flush, Anew, All, a power failure and Open. Conditions: as each contract's. -/
import Derived.Test.YtkehojgiappiiaaGreatDoorZ
set_option linter.unusedVariables false
set_option linter.unusedSimpArgs false
namespace Go.Proofs.YtkehojgiappiiaaGreatDoor
open Go Go.RowKit
/-- A block that is none of F's. -/
structure Out (w : World) (F : Nat → Prop) (c : Nat) (o : Obj) : Prop where
  lt : c < w.heap.size
  blk : w.heap[c]? = some o
  out : ¬ F c
theorem Out.turn {w w' : World} {F F' : Nat → Prop} {c : Nat} {o : Obj} (h : Out w F c o) (T : Turn F w F' w') : Out w' F' c o :=
  ⟨Nat.lt_of_lt_of_le h.lt T.size, (T.block c h.lt h.out).trans h.blk, fun hf => (T.foot c hf).elim h.out fun hn => by have := h.lt; omega⟩
theorem Out.below {w w' : World} {F : Nat → Prop} {c : Nat} {o : Obj} (h : Out w F c o) (hb : Below w.heap.size w w') : Out w' F c o :=
  ⟨Nat.lt_of_lt_of_le h.lt hb.size, (hb.block c h.lt).trans h.blk, h.out⟩
theorem Out.left {w : World} {F G : Nat → Prop} {c : Nat} {o : Obj} (h : Out w (Un F G) c o) : Out w F c o := ⟨h.lt, h.blk, fun hf => h.out (.inl hf)⟩
theorem cell_same {w w' : World} {c : Nat} {o : Obj} (h : w.heap[c]? = some o) (h' : w'.heap[c]? = some o) (a : Addr) (ha : a.block = c) : w'.cell? a = w.cell? a := by
  subst ha
  simp only [World.cell?, h, h']
theorem reads_same {w w' : World} {c B : Nat} {o : Obj} {A : Option Addr} {n : Nat} {xs : List Value} (h : Reads w B 1 A n xs) (hc : ∀ ad, A = some ad → ad.block = c) (h1 : w.heap[c]? = some o) (h2 : w'.heap[c]? = some o) : Reads w' B 1 A n xs := by
  refine ⟨h.1, fun h0 => ?_⟩
  obtain ⟨ad, e, hb, hr⟩ := h.2 h0
  exact ⟨ad, e, hb, fun j u hu => (cell_same h1 h2 (ad.add j) (by rw [block_of_add]; exact hc ad e)).trans (hr j u hu)⟩
section
variable {w w' : World} {F G : Nat → Prop} {p d N t st B c : Nat} {R : List (List UInt8)} {sr : Nat} {su : List ByteArray} {l : List (Nat × ByteArray)} {o : Obj}
structure LogK (w : World) (B : Nat) (F G : Nat → Prop) (p d N t st : Nat) (R : List (List UInt8)) (sr : Nat) (su : List ByteArray) (l : List (Nat × ByteArray)) (c : Nat) (o : Obj) : Prop where
  f : LogF w B F G p d N t st R sr su l
  o : Out w (Un F G) c o
theorem LogK.below (h : LogK w B F G p d N t st R sr su l c o) (hb : Below w.heap.size w w') : LogK w' B F G p d N t st R sr su l c o := ⟨h.f.below hb, h.o.below hb⟩
theorem LogK.drewN (h : LogK w B F G p d N t st R sr su l c o) (q : Nat) : LogK (w.drewN q) B F G p d N t st R sr su l c o := h.below (below_drewN (Below.refl _ w) q)
theorem logk_add (h : LogK w B F G p d N t st R sr su l c o) (r : List UInt8) (hr : r.length ≤ 32768) (hfit : (encs R).length + (r.length + 14) ≤ 128 * hB N t) (hl : l.length ≤ 900000) : Calls Tryz.prog 8 #[.pointer (some ⟨p, 0, none⟩), .string ⟨r.toArray⟩] w fun e w' =>
    e = .returned (.int .i64 0) ∧ ∃ F' G' l', LogK w' B F' G' p d N t st (R ++ [r]) sr su l' c o ∧ l'.length ≤ l.length + 300 ∧ Below B w w' := by
  refine (add_ok h.f.log r hr hfit hl h.f.tab.t1).mono ?_
  rintro e w' ⟨rfl, F', G', l', hL, hl', hT⟩
  obtain ⟨h1, h2⟩ := h.f.next hL hT
  exact ⟨rfl, F', G', l', ⟨h1, h.o.turn hT⟩, hl', h2⟩
theorem logk_flush (h : LogK w B F G p d N t st R sr su l c o) (hl : l.length ≤ 900000) : Calls Tryz.prog 9 #[.pointer (some ⟨p, 0, none⟩)] w fun e w' =>
    e = .returned (.int .i64 0) ∧ ∃ F' G' st' su', LogK w' B F' G' p d N t st' R R.length su' [] c o ∧ Below B w w' := by
  refine (flush_any h.f.log hl).mono ?_
  rintro e w' ⟨rfl, F', G', st', hL, hT⟩
  obtain ⟨h1, h2⟩ := h.f.next hL hT
  exact ⟨rfl, F', G', st', _, ⟨h1, h.o.turn hT⟩, h2⟩
theorem logk_anew (h : LogK w B F G p d N t st R sr su l c o) (ht : t + 1 ≤ 1000000) (rs : List (List UInt8)) (A0 : Option Addr) (n0 c0 : Nat) (hR : Reads w w.heap.size 1 A0 n0 (strL rs)) (hA0 : ∀ ad, A0 = some ad → 0 < n0 → ¬ Un F G ad.block) (hn0 : n0 ≤ maxLen) (hs : ∀ r ∈ rs, r.length ≤ 32768) (hfit : (encs rs).length ≤ 128 * hB N (t + 1)) (hl : l.length ≤ 900000) (hP : Tabs w B) :
    Calls Tryz.prog 11 #[.pointer (some ⟨p, 0, none⟩), .slice A0 n0 c0] w fun e w' => e = .returned (.int .i64 0) ∧ ∃ F' G' st' su', LogK w' B F' G' p d N (t + 1) st' rs rs.length su' [] c o ∧ Below B w w' := by
  refine (anew_ok h.f.log ht rs A0 n0 c0 hR hA0 hn0 hs hfit hl h.f.tab hP h.f.far).mono ?_
  rintro e w' ⟨rfl, F', G', st', su', hL, hT⟩
  obtain ⟨h1, h2⟩ := h.f.next hL hT
  exact ⟨rfl, F', G', st', su', ⟨h1, h.o.turn hT⟩, h2⟩
/-- A disk that has failed with nothing loose: it still holds the whole list; and the block beside it. -/
structure DskK (w : World) (B : Nat) (F : Nat → Prop) (d N t : Nat) (R : List (List UInt8)) (su : List ByteArray) (c : Nat) (o : Obj) : Prop where
  disk : Disk w F d N su []
  at_ : ∃ m, DiskD N t R m su ∧ wh R m = R.length
  far : ∀ b, F b → B ≤ b
  tab : Tab w B
  o : Out w F c o
theorem logk_fail (h : LogK w B F G p d N t st R sr su [] c o) (keep torn : Int) (hk1 : -9223372036854775808 ≤ keep) (hk2 : keep ≤ 9223372036854775807) (ht1 : -9223372036854775808 ≤ torn) (ht2 : torn ≤ 9223372036854775807) :
    Calls Tryz.prog 12 #[.pointer (some ⟨d, 0, none⟩), .int .i64 keep, .int .i64 torn] w fun e w' => e = .returned (.int .i64 0) ∧ DskK w' B F d N t R (failP [] su keep torn) c o ∧ Below B w w' := by
  refine (fail_any h.f (Nat.zero_le _) keep torn hk1 hk2 ht1 ht2).mono ?_
  rintro e w' ⟨rfl, hD, hT, ht, hb⟩
  obtain ⟨m, h1, h2, h3⟩ := h.f.log.ok.fail keep torn
  exact ⟨rfl, ⟨hD, ⟨m, h1, h3 (.inl rfl)⟩, fun b hb => h.f.far b (.inl hb), ht, h.o.left.turn hT⟩, hb⟩
theorem dskk_open (h : DskK w B F d N t R su c o) (hN : N ≤ 4000) : Calls Tryz.prog 13 #[.pointer (some ⟨d, 0, none⟩)] w fun e w' =>
    ∃ p F' G' st' su', e = .returned (.tuple #[.pointer (some ⟨p, 0, none⟩), .int .i64 0]) ∧ LogK w' B F' G' p d N t st' R R.length su' [] c o ∧ Below B w w' := by
  obtain ⟨m, hd, hm⟩ := h.at_
  refine (open_any h.disk hd hN h.tab.t1).mono ?_
  rintro e w' ⟨p, F', G', st', rfl, hL, hTn⟩
  rw [hm, List.take_length] at hL
  have hdn := hTn.down h.far h.tab.le
  exact ⟨p, F', G', st', _, rfl, ⟨⟨hL, hTn.far h.far h.tab.le, h.tab.on hdn⟩, h.o.turn hTn⟩, hdn⟩
end
end Go.Proofs.YtkehojgiappiiaaGreatDoor
