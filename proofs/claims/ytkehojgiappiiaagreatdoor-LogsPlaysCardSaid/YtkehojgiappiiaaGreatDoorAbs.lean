/- A disk in memory by what is sure of it and its loose writes alone, and what each function of package block does to it. Conditions: those named in each. -/
import Derived.Test.YtkehojgiappiiaaGreatDoorFailB
set_option linter.unusedVariables false
set_option linter.unusedSimpArgs false
namespace Go.Proofs.YtkehojgiappiiaaGreatDoor
open Go Go.RowKit
/-- Writes, one after the other. -/
def setsP (l : List (Nat × ByteArray)) (su : List ByteArray) : List ByteArray := l.foldl (fun s p => s.set p.1 p.2) su
def tornP (p : Nat × ByteArray) (su : List ByteArray) (torn : Int) : List ByteArray := su.set p.1 (tearB p.2 (su.getD p.1 ⟨#[]⟩) (shr torn p.2.size))
def failP (l : List (Nat × ByteArray)) (su : List ByteArray) (keep torn : Int) : List ByteArray :=
  match l[shr keep l.length]? with
  | some p => tornP p (setsP (l.take (shr keep l.length)) su) torn
  | none => setsP l su
theorem sets_map (L : List (Nat × Nat × ByteArray)) : ∀ su, sets L su = setsP (L.map (·.2)) su := by
  induction L with
  | nil => intro su; rfl
  | cons p L ih => intro su; exact ih _
theorem setsP_snoc (l : List (Nat × ByteArray)) (p : Nat × ByteArray) (su : List ByteArray) : setsP (l ++ [p]) su = (setsP l su).set p.1 p.2 := by
  unfold setsP
  rw [List.foldl_append]
  rfl
theorem setsP_app (l m : List (Nat × ByteArray)) (su : List ByteArray) : setsP (l ++ m) su = setsP m (setsP l su) := by
  unfold setsP
  rw [List.foldl_append]
theorem setsP_len (l : List (Nat × ByteArray)) : ∀ su : List ByteArray, (setsP l su).length = su.length := by
  induction l with
  | nil => intro su; rfl
  | cons p l ih => intro su; exact (ih _).trans (List.length_set ..)
theorem setsP_small {l : List (Nat × ByteArray)} (hl : ∀ p ∈ l, p.2.size ≤ 128) : ∀ su : List ByteArray, (∀ s ∈ su, s.size ≤ 128) → ∀ s ∈ setsP l su, s.size ≤ 128 := by
  induction l with
  | nil => intro su h; exact h
  | cons p l ih =>
    intro su h
    refine ih (fun q hq => hl q (List.mem_cons_of_mem _ hq)) _ fun s hs => ?_
    rcases List.mem_or_eq_of_mem_set hs with h1 | h1
    · exact h s h1
    · rw [h1]; exact hl p (List.mem_cons_self ..)
theorem setsP_at (l : List (Nat × ByteArray)) (i : Nat) : ∀ su : List ByteArray, (setsP l su)[i]? = su[i]? ∨ ∃ p ∈ l, p.1 = i := by
  induction l with
  | nil => intro su; exact .inl rfl
  | cons p l ih =>
    intro su
    rcases ih (su.set p.1 p.2) with h | ⟨q, hq, e⟩
    · by_cases hp : p.1 = i
      · exact .inr ⟨p, List.mem_cons_self .., hp⟩
      · refine .inl (h.trans ?_)
        rw [List.getElem?_set_ne hp]
    · exact .inr ⟨q, List.mem_cons_of_mem _ hq, e⟩
theorem tearB_size {s had : ByteArray} {k : Nat} (hk : k ≤ s.size) (hs : s.size ≤ 128) (hh : had.size ≤ 128) : (tearB s had k).size ≤ 128 := by
  unfold tearB
  rw [ByteArray.size_append, ByteArray.size_extract, ByteArray.size_extract]
  omega
theorem tornP_small {p : Nat × ByteArray} (hp : p.2.size ≤ 128) {su : List ByteArray} (h : ∀ s ∈ su, s.size ≤ 128) (torn : Int) : ∀ s ∈ tornP p su torn, s.size ≤ 128 := by
  intro s hs
  rcases List.mem_or_eq_of_mem_set hs with h1 | h1
  · exact h s h1
  · rw [h1]
    exact tearB_size (shr_le _ _) hp (getD_small h _)
theorem forgets_all (L : List (Nat × Nat × ByteArray)) (S : List ByteArray) : ∀ nw : List ByteArray, nw.length = S.length → (∀ i, nw[i]? = S[i]? ∨ ∃ p ∈ L, p.2.1 = i) → forgets L S nw = S := by
  induction L with
  | nil =>
    intro nw hn h
    exact List.ext_getElem? fun i => (h i).elim id fun ⟨p, hp, _⟩ => by simp at hp
  | cons p L ih =>
    intro nw hn h
    refine ih (nw.set p.2.1 (S.getD p.2.1 ⟨#[]⟩)) (by rw [List.length_set]; exact hn) fun i => ?_
    by_cases hi : p.2.1 = i
    · left
      subst hi
      by_cases hl : p.2.1 < nw.length
      · rw [List.getElem?_set_self hl, List.getD_eq_getElem?_getD, List.getElem?_eq_getElem (by omega)]
        rfl
      · rw [List.getElem?_eq_none (by rw [List.length_set]; omega), List.getElem?_eq_none (by omega)]
    · rw [List.getElem?_set_ne hi]
      rcases h i with h | ⟨q, hq, e⟩
      · exact .inl h
      · rcases List.mem_cons.1 hq with rfl | hq
        · exact absurd e hi
        · exact .inr ⟨q, hq, e⟩
/-- A disk in memory: F is all its blocks. -/
structure Disk (w : World) (F : Nat → Prop) (d N : Nat) (su : List ByteArray) (l : List (Nat × ByteArray)) : Prop where
  ex : ∃ bn bs v L, DkW w F d bn bs N v (setsP l su) su L ∧ L.map (·.2) = l
  small : ∀ s ∈ su, s.size ≤ 128
section
variable {w w' : World} {F : Nat → Prop} {d N : Nat} {su : List ByteArray} {l : List (Nat × ByteArray)}
theorem Disk.len (h : Disk w F d N su l) : su.length = N := by obtain ⟨_, _, _, _, k, _⟩ := h.ex; exact k.ls
theorem Disk.lt (h : Disk w F d N su l) : ∀ b, F b → b < w.heap.size := by obtain ⟨_, _, _, _, k, _⟩ := h.ex; exact k.lt
theorem Disk.parts (h : Disk w F d N su l) : ∀ p ∈ l, p.1 < N ∧ p.2.size ≤ 128 := by
  obtain ⟨_, _, _, L, k, rfl⟩ := h.ex
  intro p hp
  obtain ⟨q, hq, rfl⟩ := List.mem_map.1 hp
  exact (k.boxes q hq).2.2
theorem Disk.keep (h : Disk w F d N su l) (hk : ∀ b, F b → w'.heap[b]? = w.heap[b]?) (hs : w.heap.size ≤ w'.heap.size) : Disk w' F d N su l := by
  obtain ⟨bn, bs, v, L, k, e⟩ := h.ex
  exact ⟨⟨bn, bs, v, L, k.keep hk hs, e⟩, h.small⟩
theorem Disk.below (h : Disk w F d N su l) (hb : Below w.heap.size w w') : Disk w' F d N su l := h.keep (fun b hF => hb.block b (h.lt b hF)) hb.size
theorem Disk.drewN (h : Disk w F d N su l) (q : Nat) : Disk (w.drewN q) F d N su l := h.keep (fun _ _ => rfl) (Nat.le_refl _)
theorem Disk.alloc (h : Disk w F d N su l) (o : Obj) : Disk (w.alloc o) F d N su l := h.keep (fun b hb => heap_alloc_lt w o (h.lt b hb)) (by simp)
theorem Disk.turn {G G' : Nat → Prop} (h : Disk w F d N su l) (t : Turn G w G' w') (hd : ∀ b, F b → ¬ G b) : Disk w' F d N su l := h.keep (fun b hb => t.block b (h.lt b hb) (hd b hb)) t.size
end
theorem none_small (n : Nat) : ∀ s ∈ none_ n, s.size ≤ 128 := by
  intro s hs
  rw [List.eq_of_mem_replicate hs]
  exact Nat.zero_le _
theorem a_new (n : Nat) (h4 : 4 ≤ n) (hn : n ≤ 16384) (w : World) : Calls Tryz.prog 16 #[.int .i64 (n : Int)] w fun e w' => ∃ d F, e = .returned (.tuple #[.pointer (some ⟨d, 0, none⟩), .int .i64 0]) ∧ Disk w' F d n (none_ n) [] ∧ (∀ b, F b → w.heap.size ≤ b) ∧ Below w.heap.size w w' := by
  refine (new_any n h4 hn w).mono ?_
  rintro e w' ⟨d, bn, bs, rfl, h, hb⟩
  exact ⟨d, _, rfl, ⟨⟨bn, bs, _, [], h, rfl⟩, none_small n⟩, fun b hb => hb.1, hb⟩
/-- Whether a write is taken. -/
def putB (N : Nat) (z : Int) (s : ByteArray) : Bool := decide (0 ≤ z) && decide (z < (N : Int)) && decide (s.size ≤ 128)
def putL (N : Nat) (l : List (Nat × ByteArray)) (z : Int) (s : ByteArray) : List (Nat × ByteArray) := bif putB N z s then l ++ [(z.toNat, s)] else l
def putE (N : Nat) (z : Int) (s : ByteArray) : Int := bif putB N z s then 0 else 1
def hasB (N : Nat) (z : Int) : Bool := decide (0 ≤ z) && decide (z < (N : Int))
def getS (nw : List ByteArray) (z : Int) : ByteArray := bif hasB nw.length z then nw.getD z.toNat ⟨#[]⟩ else ⟨#[]⟩
def getE (N : Nat) (z : Int) : Int := bif hasB N z then 0 else 1
section
variable {w w' : World} {F : Nat → Prop} {d N : Nat} {su : List ByteArray} {l : List (Nat × ByteArray)}
theorem a_put (h : Disk w F d N su l) (k : Nat) (hk : k < N) (s : ByteArray) (hs : s.size ≤ 128) (hl : l.length ≤ 1000000) : Calls Tryz.prog 50 #[.pointer (some ⟨d, 0, none⟩), .int .i64 (k : Int), .string s] w fun e w' =>
    e = .returned (.int .i64 0) ∧ ∃ F', Disk w' F' d N su (l ++ [(k, s)]) ∧ Turn F w F' w' := by
  obtain ⟨bn, bs, v, L, h', rfl⟩ := h.ex
  refine (put_ok h' k hk s hs (by simpa using hl)).mono ?_
  rintro e w' ⟨rfl, F', v', k', t⟩
  exact ⟨rfl, F', ⟨⟨bn, bs, v', _, by rw [setsP_snoc]; exact k', by simp⟩, h.small⟩, t⟩
theorem a_put_any (h : Disk w F d N su l) (z : Int) (s : ByteArray) (hs : s.size ≤ 9223372036854775807) (hl : l.length ≤ 1000000) : Calls Tryz.prog 50 #[.pointer (some ⟨d, 0, none⟩), .int .i64 z, .string s] w fun e w' =>
    e = .returned (.int .i64 (putE N z s)) ∧ ∃ F', Disk w' F' d N su (putL N l z s) ∧ Turn F w F' w' := by
  by_cases hp : 0 ≤ z ∧ z < (N : Int) ∧ s.size ≤ 128
  · have hb : putB N z s = true := by simp [putB, hp.1, hp.2.1, hp.2.2]
    obtain ⟨k, rfl⟩ : ∃ k : Nat, z = k := ⟨z.toNat, by omega⟩
    refine (a_put h k (by omega) s hp.2.2 hl).mono ?_
    rintro e w' ⟨rfl, F', h', t⟩
    unfold putE putL
    rw [hb]
    exact ⟨rfl, F', h', t⟩
  · have hb : putB N z s = false := by
      by_cases h0 : 0 ≤ z
      · by_cases h1 : z < (N : Int)
        · have : ¬ s.size ≤ 128 := fun h2 => hp ⟨h0, h1, h2⟩
          simp only [putB, decide_eq_false this, Bool.and_false]
        · simp only [putB, decide_eq_false h1, Bool.and_false, Bool.false_and]
      · simp only [putB, decide_eq_false h0, Bool.false_and]
    obtain ⟨bn, bs, v, L, h', _⟩ := h.ex
    refine (put_no h' z s hs (by omega)).mono ?_
    rintro e w' ⟨rfl, hb'⟩
    unfold putE putL
    rw [hb]
    exact ⟨rfl, F, h.below hb', Turn.below F hb'⟩
theorem a_get (h : Disk w F d N su l) (k : Nat) (hk : k < N) : Calls Tryz.prog 49 #[.pointer (some ⟨d, 0, none⟩), .int .i64 (k : Int)] w fun e w' => e = .returned (.tuple #[.string ((setsP l su).getD k ⟨#[]⟩), .int .i64 0]) ∧ ∃ q, w' = w.drewN q := by
  obtain ⟨bn, bs, v, L, h', rfl⟩ := h.ex
  exact get_yes h' k hk
theorem a_get_any (h : Disk w F d N su l) (z : Int) : Calls Tryz.prog 49 #[.pointer (some ⟨d, 0, none⟩), .int .i64 z] w fun e w' => e = .returned (.tuple #[.string (getS (setsP l su) z), .int .i64 (getE N z)]) ∧ ∃ q, w' = w.drewN q := by
  have hl : (setsP l su).length = N := by rw [setsP_len]; exact h.len
  unfold getS getE
  rw [hl]
  by_cases hp : 0 ≤ z ∧ z < (N : Int)
  · have hb : hasB N z = true := by simp [hasB, hp.1, hp.2]
    obtain ⟨k, rfl⟩ : ∃ k : Nat, z = k := ⟨z.toNat, by omega⟩
    rw [hb]
    exact a_get h k (by omega)
  · have hb : hasB N z = false := by
      by_cases h0 : 0 ≤ z
      · have h1 : ¬ z < (N : Int) := fun h1 => hp ⟨h0, h1⟩
        simp only [hasB, decide_eq_false h1, Bool.and_false]
      · simp only [hasB, decide_eq_false h0, Bool.false_and]
    rw [hb]
    obtain ⟨bn, bs, v, L, h', _⟩ := h.ex
    exact get_no h' z (by omega)
theorem a_sync (h : Disk w F d N su l) (hl : l.length ≤ 1000000) : Calls Tryz.prog 26 #[.pointer (some ⟨d, 0, none⟩)] w fun e w' => e = .returned (.int .i64 0) ∧ Disk w' F d N (setsP l su) [] ∧ Turn F w F w' := by
  have hp := h.parts
  obtain ⟨bn, bs, v, L, h', rfl⟩ := h.ex
  refine (sync_any h' (by simpa using hl)).mono ?_
  rintro e w' ⟨rfl, k, t⟩
  rw [sets_map] at k
  exact ⟨rfl, ⟨⟨bn, bs, _, [], k, rfl⟩, setsP_small (fun p hq => (hp p hq).2) su h.small⟩, t⟩
theorem a_loose (h : Disk w F d N su l) : Calls Tryz.prog 44 #[.pointer (some ⟨d, 0, none⟩)] w fun e w' => e = .returned (.int .i64 (l.length : Int)) ∧ ∃ q, w' = w.drewN q := by
  obtain ⟨bn, bs, v, L, h', rfl⟩ := h.ex
  rw [List.length_map]
  exact loose_any h'
theorem a_blocks (h : Disk w F d N su l) : Calls Tryz.prog 39 #[.pointer (some ⟨d, 0, none⟩)] w fun e w' => e = .returned (.int .i64 (N : Int)) ∧ ∃ q, w' = w.drewN q := by
  obtain ⟨bn, bs, v, L, h', rfl⟩ := h.ex
  exact blocks_any h'
theorem a_fail (h : Disk w F d N su l) (hl : l.length ≤ 1000000) (keep torn : Int) (hk1 : -9223372036854775808 ≤ keep) (hk2 : keep ≤ 9223372036854775807) (ht1 : -9223372036854775808 ≤ torn) (ht2 : torn ≤ 9223372036854775807) :
    Calls Tryz.prog 12 #[.pointer (some ⟨d, 0, none⟩), .int .i64 keep, .int .i64 torn] w fun e w' => e = .returned (.int .i64 0) ∧ Disk w' F d N (failP l su keep torn) [] ∧ Turn F w F w' := by
  have hp := h.parts
  obtain ⟨bn, bs, v, L, h', rfl⟩ := h.ex
  have hL : L.length ≤ 1000000 := by simpa using hl
  have hle := shr_le keep L.length
  unfold failP
  rw [List.length_map]
  by_cases hm : shr keep L.length < L.length
  · generalize hmm : shr keep L.length = m at *
    have hg : (L.map (·.2))[m]? = some (L[m].2) := by rw [List.getElem?_map, List.getElem?_eq_getElem hm]; rfl
    have e2 : tornS L[m] (sets (L.take m) su) torn = tornP L[m].2 (setsP ((L.map (·.2)).take m) su) torn := by
      rw [sets_map, List.map_take]
      rfl
    have hft : forgets (L.drop m) (tornP L[m].2 (setsP ((L.map (·.2)).take m) su) torn) (setsP (L.map (·.2)) su) = tornP L[m].2 (setsP ((L.map (·.2)).take m) su) torn := by
      refine forgets_all _ _ _ ?_ fun i => ?_
      · unfold tornP
        rw [List.length_set, setsP_len, setsP_len]
      · have hin : L[m] ∈ L.drop m := by
          rw [List.mem_iff_getElem]
          exact ⟨0, by rw [List.length_drop]; omega, by simp⟩
        by_cases hi : L[m].2.1 = i
        · exact .inr ⟨L[m], hin, hi⟩
        · have e3 : (tornP L[m].2 (setsP ((L.map (·.2)).take m) su) torn)[i]? = (setsP ((L.map (·.2)).take m) su)[i]? := by
            unfold tornP
            rw [List.getElem?_set_ne hi]
          rw [e3]
          have e4 : setsP (L.map (·.2)) su = setsP ((L.map (·.2)).drop m) (setsP ((L.map (·.2)).take m) su) := by
            rw [← setsP_app, List.take_append_drop]
          rw [e4]
          rcases setsP_at ((L.map (·.2)).drop m) i (setsP ((L.map (·.2)).take m) su) with h1 | ⟨p, hp1, hp2⟩
          · exact .inl h1
          · rw [← List.map_drop] at hp1
            obtain ⟨x, hx, rfl⟩ := List.mem_map.1 hp1
            exact .inr ⟨x, hx, hp2⟩
    rw [hg]
    refine (fail_some h' hL h.small keep torn hk1 hk2 ht1 ht2 m hmm hm).mono ?_
    rintro e w' ⟨rfl, k, t⟩
    rw [e2, hft] at k
    refine ⟨rfl, ⟨⟨bn, bs, _, [], k, rfl⟩, ?_⟩, t⟩
    refine tornP_small ?_ (setsP_small (fun p hq => (hp p (List.mem_of_mem_take hq)).2) su h.small) torn
    exact (hp L[m].2 (List.mem_map.2 ⟨_, List.getElem_mem _, rfl⟩)).2
  · have hmm : shr keep L.length = L.length := by omega
    rw [hmm, List.getElem?_eq_none (by rw [List.length_map]; exact Nat.le_refl _)]
    refine (fail_all h' hL keep torn hk1 hk2 hmm).mono ?_
    rintro e w' ⟨rfl, k, t⟩
    rw [sets_map] at k
    exact ⟨rfl, ⟨⟨bn, bs, _, [], k, rfl⟩, setsP_small (fun p hq => (hp p hq).2) su h.small⟩, t⟩
end
end Go.Proofs.YtkehojgiappiiaaGreatDoor
