/- Values as Int, Str and List make them, and lists within each other. Conditions: strings of up to 4096 bytes. -/
import Derived.Test.YtcgcocnbjijdaaaDoorLongC
set_option linter.unusedVariables false
set_option linter.unusedSimpArgs false
namespace Go.Proofs.YtcgcocnbjijdaaaDoor
open Go Go.RowKit

def tA (n : Int) : T := .mk 1 n .empty []
def tB (s : ByteArray) : T := .mk 2 0 s []
def tL (n : Int) (s : ByteArray) : T := .mk 3 0 .empty [tA n, tB s]
def wrap (t : T) : Nat → T
  | 0 => t
  | j + 1 => .mk 3 0 .empty [wrap t j]
theorem rd_tA (n : Int) (w : World) (ok : Nat → Prop) : RdA ok w (tA n) (.agg #[.int .i64 1, .int .i64 n, .string ⟨#[]⟩, .slice none 0 0]) :=
  ⟨none, 0, [], rfl, by simp [tA, T.s, maxLen], Nat.le_refl _, by decide, ReadsP.none_, rfl⟩
theorem rd_tB (s : ByteArray) (hs : s.size ≤ 4096) (w : World) (ok : Nat → Prop) : RdA ok w (tB s) (.agg #[.int .i64 2, .int .i64 0, .string s, .slice none 0 0]) :=
  ⟨none, 0, [], rfl, by show s.size ≤ maxLen; unfold maxLen; omega, Nat.le_refl _, by decide, ReadsP.none_, rfl⟩
theorem rd_four {ok : Nat → Prop} {w : World} {t : T} {c0 c1 c2 c3 : Value} (h : RdA ok w t (.agg #[c0, c1, c2, c3])) : Rd ok w t [c0, c1, c2, c3] := by
  obtain ⟨A, c, he, hr⟩ := h.rd
  simp only [Value.agg.injEq, Array.mk.injEq, List.cons.injEq, and_true] at he
  obtain ⟨rfl, rfl, rfl, rfl⟩ := he
  exact hr
theorem rdl_one {ok : Nat → Prop} {w : World} {t : T} {cs : List Value} (h : Rd ok w t cs) : RdL ok w [t] cs := ⟨cs, [], by simp, h, rfl⟩
theorem rdl_two {ok : Nat → Prop} {w : World} {t u : T} {cs ds : List Value} (h : Rd ok w t cs) (k : Rd ok w u ds) : RdL ok w [t, u] (cs ++ ds) := ⟨cs, ds, rfl, h, rdl_one k⟩
/-- What List returns, of values that read as trees. -/
theorem list_rd (ok : Nat → Prop) (A : Option Addr) (c : Nat) (ts : List T) (xs : List Value) (w : World) (hok : ∀ b, w.heap.size ≤ b → ok b) (hr : ReadsP Tr w 4 A ts.length xs) (hn : ts.length ≤ 1000) (hrd : RdL ok w ts xs) :
    Calls Tryd.prog 22 #[.slice A ts.length c] w fun e w' => ∃ A' c', e = .returned (.agg #[.int .i64 3, .int .i64 0, .string ⟨#[]⟩, .slice A' ts.length c']) ∧ RdA ok w' (.mk 3 0 .empty ts) (.agg #[.int .i64 3, .int .i64 0, .string ⟨#[]⟩, .slice A' ts.length c']) ∧ ReadsP Tr w' 4 A' ts.length xs ∧ (0 < ts.length → ∃ G, A' = some ⟨G, 0, none⟩) ∧ Below w.heap.size w w' := by
  refine (list_any A ts.length c Tr xs w hr (by omega) (RdL.one _ _ hrd)).mono ?_
  rintro e w' ⟨v, rfl, hown, hb⟩
  obtain ⟨A', c', rfl, h1, h2⟩ := own_shape hown
  have hp := ReadsP.of_own hown
  refine ⟨A', c', rfl, ⟨A', c', xs, rfl, by simp [T.s, maxLen], h1, h2, hp.mono (fun b hb' _ => hok b (by omega)), ?_⟩, hp.mono (fun b hb' _ => trivial), fun h0 => by
    obtain ⟨g, cap, hv, _⟩ := hown.form h0
    injection hv with hv1
    exact ⟨g, hv1⟩, hb⟩
  have hk : Keeps ok w w' := ⟨hb.size, fun b _ hl => hb.block b hl⟩
  exact RdL.keep hk _ _ hrd
theorem kinds_tL (n : Int) (s : ByteArray) : kindsOk (tL n s) = true := by simp [tL, tA, tB, kindsOk, kindsOkL]
theorem clean_tL (n : Int) (s : ByteArray) : cleanT (tL n s) = true := by simp [tL, tA, tB, cleanT, cleanL]
theorem wf_tL (n : Int) (s : ByteArray) (h : wfT (tA n) = true) : wfT (tL n s) = true := by
  have : wfT (tB s) = true := by simp [tB, wfT, wfL]
  simp [tL, wfT, wfL, h, this]
theorem same_self {v : Value} (h : ∃ t, ∀ w, RdA Tr w t v) (w : World) : Calls Tryd.prog 18 #[v, v] w (Gives (.bool true) w) := by
  obtain ⟨t, h⟩ := h
  have := same_any t t v v Tr Tr w (h w) (h w)
  rwa [sameT_refl] at this
/-- What the cells are at the one great test. -/
def SM (A B C G c : Nat) (n : Int) (s : ByteArray) (w' : World) : Prop := w'.cell? ⟨A, 0, none⟩ = some (.int .i64 1) ∧ w'.cell? ⟨A, 1, none⟩ = some (.int .i64 n) ∧ w'.cell? ⟨A, 2, none⟩ = some (.string ⟨#[]⟩) ∧ w'.cell? ⟨A, 3, none⟩ = some (.slice none 0 0) ∧ w'.cell? ⟨B, 0, none⟩ = some (.int .i64 2) ∧ w'.cell? ⟨B, 1, none⟩ = some (.int .i64 0) ∧ w'.cell? ⟨B, 2, none⟩ = some (.string s) ∧ w'.cell? ⟨B, 3, none⟩ = some (.slice none 0 0) ∧ w'.cell? ⟨C, 0, none⟩ = some (.int .i64 3) ∧ w'.cell? ⟨C, 1, none⟩ = some (.int .i64 0) ∧ w'.cell? ⟨C, 2, none⟩ = some (.string ⟨#[]⟩) ∧ w'.cell? ⟨C, 3, none⟩ = some (.slice (some ⟨G, 0, none⟩) 2 c) ∧ w'.cell? ⟨G, 0, none⟩ = some (.int .i64 1) ∧ w'.cell? ⟨G, 1, none⟩ = some (.int .i64 n) ∧ w'.cell? ⟨G, 2, none⟩ = some (.string ⟨#[]⟩) ∧ w'.cell? ⟨G, 3, none⟩ = some (.slice none 0 0) ∧ w'.cell? ⟨G, 4, none⟩ = some (.int .i64 2) ∧ w'.cell? ⟨G, 5, none⟩ = some (.int .i64 0) ∧ w'.cell? ⟨G, 6, none⟩ = some (.string s) ∧ w'.cell? ⟨G, 7, none⟩ = some (.slice none 0 0)
theorem SM.on {A B C G c : Nat} {n : Int} {s : ByteArray} {W w' : World} (h : SM A B C G c n s W) (hA : A < W.heap.size) (hB : B < W.heap.size) (hC : C < W.heap.size) (hG : G < W.heap.size) (hb : Below W.heap.size W w') : SM A B C G c n s w' := by
  obtain ⟨c0, c1, c2, c3, c4, c5, c6, c7, c8, c9, c10, c11, c12, c13, c14, c15, c16, c17, c18, c19⟩ := h
  exact ⟨(hb.cell hA).trans c0, (hb.cell hA).trans c1, (hb.cell hA).trans c2, (hb.cell hA).trans c3, (hb.cell hB).trans c4, (hb.cell hB).trans c5, (hb.cell hB).trans c6, (hb.cell hB).trans c7, (hb.cell hC).trans c8, (hb.cell hC).trans c9, (hb.cell hC).trans c10, (hb.cell hC).trans c11, (hb.cell hG).trans c12, (hb.cell hG).trans c13, (hb.cell hG).trans c14, (hb.cell hG).trans c15, (hb.cell hG).trans c16, (hb.cell hG).trans c17, (hb.cell hG).trans c18, (hb.cell hG).trans c19⟩
theorem keepS {A B C G c : Nat} {n : Int} {s : ByteArray} {W cur w3 : World} (h : SM A B C G c n s W) (hl : A < W.heap.size ∧ B < W.heap.size ∧ C < W.heap.size ∧ G < W.heap.size) (hc : Below W.heap.size W cur ∧ SM A B C G c n s cur) (hb : Below cur.heap.size cur w3) : Below W.heap.size W w3 ∧ SM A B C G c n s w3 := by
  have h2 := below_then hc.1 hb
  exact ⟨h2, h.on hl.1 hl.2.1 hl.2.2.1 hl.2.2.2 h2⟩
theorem cleanS {A B C G c : Nat} {n : Int} {s : ByteArray} {W cur : World} {t : T} {v : Value} (h : RdA Tr W t v) (hk : kindsOk t = true) (hcl : cleanT t = true) (hc : Below W.heap.size W cur ∧ SM A B C G c n s cur) : Calls Tryd.prog 19 #[v] cur (Gives (.bool true) cur) :=
  clean_any t v Tr cur (h.next hc.1) hk hcl
end Go.Proofs.YtcgcocnbjijdaaaDoor
