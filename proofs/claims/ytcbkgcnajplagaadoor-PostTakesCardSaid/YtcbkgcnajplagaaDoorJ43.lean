/- Words for memory: slices that read as lists of texts, a variable of its own, appends of texts. Conditions: none. -/
import Derived.Test.YtcbkgcnajplagaaDoorJ16
set_option linter.unusedVariables false
set_option linter.unusedSimpArgs false
namespace Go.Proofs.YtcbkgcnajplagaaDoor
open Go Go.RowKit

section
variable {w w' : World} {B B' size n : Nat} {A : Option Addr} {xs : List Value}
end


/-- Texts as cells. -/
def strL (ls : List (List UInt8)) : List Value := ls.map fun l => .string ⟨l.toArray⟩
theorem strL_len (ls : List (List UInt8)) : (strL ls).length = ls.length := by simp [strL]
theorem strL_snoc (ls : List (List UInt8)) (l : List UInt8) : strL ls ++ [.string ⟨l.toArray⟩] = strL (ls ++ [l]) := by simp [strL]
theorem strL_one (ls : List (List UInt8)) : ∀ u ∈ strL ls, u.oneCell' = true := by
  intro u hu
  obtain ⟨x, _, rfl⟩ := List.mem_map.1 hu
  rfl
theorem reads_len {w : World} {B n : Nat} {A : Option Addr} {ws : List (List UInt8)} (h : Reads w B 1 A n (strL ws)) : n = ws.length := by
  have := h.1
  rw [strL_len] at this
  omega
theorem reads_str {w : World} {B n k : Nat} {A : Option Addr} {ws : List (List UInt8)} (h : Reads w B 1 A n (strL ws)) (hk : k < n) :
    ∃ ad, A = some ad ∧ ad.block < B ∧ w.cell? (ad.add k) = some (.string ⟨(ws.getD k []).toArray⟩) := by
  obtain ⟨ad, u, e, hb, hx, hc⟩ := h.at_ hk
  refine ⟨ad, e, hb, ?_⟩
  rw [hc]
  unfold strL at hx
  rw [List.getElem?_map] at hx
  obtain ⟨z, hz, rfl⟩ := Option.map_eq_some_iff.1 hx
  rw [List.getD_eq_getElem?_getD, hz]
  rfl
section
variable {w w' : World} {c : Nat} {T : TypeId} {v : Value}
end
theorem string_row : (Tryd.prog.info? 9).map (fun i => (i.zero, i.size, i.bytes)) = some (some (.string ⟨#[]⟩), 1, 16) := by kernel_rfl
theorem append_str {ops : Array Oper} {rest : List Oper} {o : Oper} {a : Act} {Q : Exit → Act → World → Prop} {W : World} (hgd : o.guard = none) (s x : Operand)
    (ho : o.op = .call { callee := .builtin .append, args := #[s, x], argTypes := #[49, 49] })
    (base : Nat) (v : Value) (n : Nat) (xs : List Value) (z : ByteArray) (hs : a.eval s = v) (hown : W.ownsRow base 9 1 v n xs) (N : Nat) (hN : N = W.heap.size) (hx : a.eval x = .slice (some ⟨N, 0, none⟩) 1 1)
    (hn : n ≤ 1000000) (hbase : base ≤ W.heap.size)
    (h : ∀ v' w', w'.ownsRow base 9 1 v' (n + 1) (xs ++ [.string z]) → W.grownBy w' v.ownBlock → wpList Tryd.prog ops Q rest (a.put o.dst v') w') :
    wpList Tryd.prog ops Q (o :: rest) a (W.alloc (.cells #[.string z] 9)) := by
  subst hN
  obtain ⟨i0, hi, hz0, hz1, hz2⟩ := info_parts string_row
  exact append_new hgd s x 49 9 9 ho base i0 (.string ⟨#[]⟩) 1 16 Tryd.underlying49 hi hz0 hz1 hz2 rfl (by decide) (by decide) v n xs hs hown hx #[.string z] rfl (by intro u hu; simp at hu; subst hu; rfl) (by omega) hbase (fun v' w' a b _ => h v' w' a b)
end Go.Proofs.YtcbkgcnajplagaaDoor
