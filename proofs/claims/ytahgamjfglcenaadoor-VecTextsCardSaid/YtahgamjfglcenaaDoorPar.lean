/- What Parse of package vec returns: the vector of a text, or that it is none. Conditions: Go's variables that it reads lie as start-up lays them. -/
import Derived.Test.YtahgamjfglcenaaDoorNum
set_option linter.unusedVariables false
set_option linter.unusedSimpArgs false
namespace Go.Proofs.YtahgamjfglcenaaDoor
open Go Go.RowKit
theorem bytes_ne {s s' : ByteArray} (h : ¬ s = s') : (s.toList == s'.toList) = false := by
  rw [beq_eq_false_iff_ne, Ne, Go.ByteArray.toList_eq, Go.ByteArray.toList_eq]
  intro e
  exact h (ByteArray.ext (Array.toList_inj.1 e))
theorem lt_of_cell {w : World} {p : Addr} {v : Value} (h : w.cell? p = some v) : p.block < w.heap.size := by
  rcases Nat.lt_or_ge p.block w.heap.size with h' | h'
  · exact h'
  · simp [World.cell?, Array.getElem?_eq_none h'] at h
/-- Go's variables that are read, as start-up lays them. -/
structure LibW (w : World) : Prop where
  tabs : Tabs w w.heap.size
  syn : ∃ te pe, w.cell? ⟨0, 0, none⟩ = some (.iface te pe)
  rng : ∃ te pe, w.cell? ⟨1, 0, none⟩ = some (.iface te pe)
  mx : ∃ m, w.cell? ⟨3, 0, none⟩ = some (.int .i64 m)
theorem LibW.next {w w1 : World} (h : LibW w) (hb : Below w.heap.size w w1) : LibW w1 := by
  obtain ⟨t, ⟨a, b, h1⟩, ⟨c, d, h2⟩, ⟨m, h3⟩⟩ := h
  exact ⟨t.next hb, ⟨a, b, (hb.cell (lt_of_cell h1)).trans h1⟩, ⟨c, d, (hb.cell (lt_of_cell h2)).trans h2⟩, ⟨m, (hb.cell (lt_of_cell h3)).trans h3⟩⟩
def AtPost (s : ByteArray) (w : World) (e : Ending) (w' : World) : Prop :=
  Below w.heap.size w w' ∧ ((∃ m, e = .returned (.tuple #[.int .i64 m, .nilIface]) ∧ ∀ x, okI x → s = itS x → m = x) ∨ (∃ m t p, e = .returned (.tuple #[.int .i64 m, .iface t p]) ∧ NoNum s))
theorem bytesWorld_below (w : World) (T : TypeId) (t : ByteArray) : Below w.heap.size w (Lib.bytesWorld w T t) := Lib.bytesWorld_below _ _ _
theorem atoi_any (s : ByteArray) (hs : s.size ≤ 1000000) (w : World) (h : LibW w) : Calls Tryd.prog 15 #[.string s] w (AtPost s w) := by
  have hno : ∀ r, (∀ v, r ≠ Lib.NumEnd.ok v) → Lib.atoiAll s.data.toList = r → NoNum s := by
    intro r hr e x hx hs
    rw [hs, itS_list, atoi_itoa hx] at e
    exact hr x e.symm
  cases ha : Lib.atoiAll s.data.toList with
  | ok v =>
    refine (Tryd.strconv_Atoi_ok s (by omega) v ha w).mono ?_
    rintro e w' ⟨rfl, hw⟩
    refine ⟨?_, .inl ⟨v, rfl, fun x hx hs => ?_⟩⟩
    · rcases hw with rfl | ⟨t, rfl⟩
      · exact Below.refl _ _
      · exact Lib.bytesWorld_below _ _ _
    · rw [hs, itS_list, atoi_itoa hx] at ha
      injection ha with ha
      exact ha.symm
  | «syntax» =>
    obtain ⟨te, pe, hc⟩ := h.syn
    refine (Tryd.strconv_Atoi_syntax s (by omega) ha _ w hc (.inr ⟨te, pe, rfl⟩)).mono ?_
    rintro e w' ⟨N, rfl, _, _, hb⟩
    exact ⟨hb, .inr ⟨_, _, _, rfl, hno _ (fun v e => by cases e) ha⟩⟩
  | range =>
    obtain ⟨te, pe, hc⟩ := h.rng
    refine (Tryd.strconv_Atoi_range s (by omega) ha _ w hc (.inr ⟨te, pe, rfl⟩)).mono ?_
    rintro e w' ⟨N, rfl, _, _, hb⟩
    exact ⟨hb, .inr ⟨_, _, _, rfl, hno _ (fun v e => by cases e) ha⟩⟩
/-- The vector of a text, or that it is none. -/
def ParseR (s : ByteArray) (out : List Int) (er : Int) : Prop := (er = 0 ∧ okV out = true ∧ s = prnB out) ∨ (er = 50 ∧ out = [] ∧ ∀ v, okV v = true → s ≠ prnB v)
theorem ParseR.same {s : ByteArray} {a b : List Int} {x y : Int} (h : ParseR s a x) (k : ParseR s b y) : a = b ∧ x = y := by
  rcases h with ⟨rfl, h1, h2⟩ | ⟨rfl, rfl, h2⟩ <;> rcases k with ⟨rfl, k1, k2⟩ | ⟨rfl, rfl, k2⟩
  · exact ⟨prnB_inj h1 k1 (h2.symm.trans k2), rfl⟩
  · exact absurd h2 (k2 _ h1)
  · exact absurd k2 (h2 _ k1)
  · exact ⟨rfl, rfl⟩
def VPost (s : ByteArray) (w : World) (e : Ending) (w' : World) : Prop :=
  ∃ A m c out er, e = .returned (.tuple #[.slice A m c, .int .i64 er]) ∧ ParseR s out er ∧ Reads w' w'.heap.size 1 A m (ints out) ∧ m ≤ maxLen ∧ Below w.heap.size w w'
theorem VPost.no {s : ByteArray} {w w' : World} (h : ∀ v, okV v = true → s ≠ prnB v) (hb : Below w.heap.size w w') : VPost s w (.returned (.tuple #[.slice none 0 0, .int .i64 50])) w' :=
  ⟨none, 0, 0, [], 50, rfl, .inr ⟨rfl, rfl, h⟩, Reads.none_, by decide, hb⟩
theorem splitB_len (s : ByteArray) : (Lib.splitB comma 0 (Lib.countB s comma) s).length = Lib.countB s comma + 1 := Lib.splitB_all comma (by decide) 0 _ s rfl
theorem count_le (s : ByteArray) : Lib.countB s comma ≤ s.size := Lib.countB_le comma (by decide) _ s (Nat.le_refl _)
/-- The parts are no longer than the text. -/
theorem splitK_le (k : Nat) : ∀ l : List UInt8, ∀ p ∈ Lib.splitK [44] 0 k l, p.length ≤ l.length := by
  induction k with
  | zero =>
    intro l p hp
    simp [Lib.splitK] at hp
    rw [hp]
    exact Nat.le_refl _
  | succ k ih =>
    intro l p hp
    rw [Lib.splitK] at hp
    split at hp
    · simp at hp
      rw [hp]
      exact Nat.le_refl _
    · rcases List.mem_cons.1 hp with rfl | hp
      · rw [List.length_take]
        omega
      · have := ih _ p hp
        rw [List.length_drop] at this
        omega
theorem parts_le (s : ByteArray) (k : Nat) : ∀ p ∈ Lib.splitB comma 0 k s, p.size ≤ s.size := by
  intro p hp
  have h := Lib.splitB_data comma 0 k s
  have : p.data.toList ∈ Lib.splitK comma.data.toList 0 k s.data.toList := by rw [← h]; exact List.mem_map.2 ⟨p, hp, rfl⟩
  have := splitK_le k _ _ this
  simpa using this
set_option maxHeartbeats 4000000 in
set_option maxRecDepth 100000 in
theorem parse_any (s : ByteArray) (hmax : s.size ≤ 9223372036854775807) (w : World) (h : LibW w) : Calls Tryd.prog 6 #[.string s] w (VPost s w) := by
  by_cases hlong : 191 < s.size
  · have hz : (191 : Int) < (s.size : Int) := by omega
    have HNO := Lib.hid (show ∀ v, okV v = true → s ≠ prnB v from fun v hv e => by have := prnB_size hv; rw [← e] at this; omega)
    go_enter Tryd.func6, Tryd.ntmps6
    go_wp2_with fail
    go_ret2
    exact VPost.no HNO.out (Below.refl _ _)
  · have hz : ¬ (191 : Int) < (s.size : Int) := by omega
    obtain ⟨m0, hm0⟩ := h.mx
    have hsp := Tryd.strings_Split s comma m0 w (by omega) hm0 (by decide)
    have hpl := splitB_len s
    have hcl := count_le s
    have hps := parts_le s (Lib.countB s comma)
    have hpv : ∀ v, okV v = true → s = prnB v → Lib.splitB comma 0 (Lib.countB s comma) s = v.map itS := fun v hv e => by subst e; exact parts_of hv
    rw [← hpl] at hsp
    generalize Lib.splitB comma 0 (Lib.countB s comma) s = L at *
    have hL : L.length ≤ 192 := by omega
    have H := Lib.hid (And.intro h (And.intro hsp (And.intro hps hpv)))
    unfold comma at H
    have HS := Lib.hid hlong
    clear h hsp hps hpv hpl hcl hm0 hlong
    go_enter Tryd.func6, Tryd.ntmps6
    go_wp2_with fail
    refine H.out.2.1.mono ?_
    rintro e w1 ⟨rfl, hw1⟩
    have hb1 : Below w.heap.size w w1 := by rw [hw1]; exact (Below.refl _ w).alloc (Nat.le_refl _) _
    have hr1 : Row w1 w.heap.size 9 (strs L) := by rw [hw1]; exact Row.new w 9 (strs L)
    have H1 := Lib.hid (And.intro hb1 hr1)
    clear hb1 hr1 hw1
    go_wp2_with fail
    go_loopw [17, 4] (fun i v wr => ∃ (k : Nat) (out : List Int), i = .int .i64 (k : Int) ∧ k ≤ L.length ∧ wr.ownsRow w1.heap.size 3 1 v k (ints out) ∧ Hid (∀ x, okV x = true → s = prnB x → out = x.take k) ∧ Below w1.heap.size w1 wr) (fun i _ _ => L.length - (intOf i).toNat)
    case atStart => exact ⟨0, [], rfl, Nat.zero_le _, World.ownsRow_nil .., Lib.hid (fun x _ _ => by simp), Below.refl _ _⟩
    case round =>
      obtain ⟨k, out, rfl, hk, hO, HO, hB⟩ := hrel
      by_cases hlt : k < L.length
      · have hltz : (k : Int) < (L.length : Int) := by omega
        have hr := H1.out.2.keep (hB.block _ H1.out.2.lt)
        have hcl := hr.cell (strs_get hlt)
        have hrl := hr.lt
        have hmem : L.getD k ⟨#[]⟩ ∈ L := by
          rw [List.getD_eq_getElem?_getD, List.getElem?_eq_getElem hlt]
          exact List.getElem_mem _
        have hsz := H.out.2.2.1 _ hmem
        have hat := atoi_any (L.getD k ⟨#[]⟩) (by omega) wr ((H.out.1.next H1.out.1).next hB)
        have hx : ∀ x, okV x = true → s = prnB x → ∃ hkx : k < x.length, L.getD k ⟨#[]⟩ = itS (x.getD k 0) := by
          intro x hx e
          have hh := H.out.2.2.2 x hx e
          have hl : x.length = L.length := by rw [hh, List.length_map]
          refine ⟨by omega, ?_⟩
          rw [hh, List.getD_eq_getElem?_getD, List.getElem?_map, List.getD_eq_getElem?_getD, List.getElem?_eq_getElem (by omega)]
          rfl
        generalize L.getD k ⟨#[]⟩ = part at *
        have HR := Lib.hid (And.intro hO (And.intro hB (And.intro hat hx)))
        have HLT := Lib.hid hlt
        clear hO hB hat hx hr hmem hsz hlt
        go_wp2_with fail
        refine HR.out.2.2.1.mono ?_
        rintro e w2 ⟨hb2, h2⟩
        rcases h2 with ⟨m, rfl, hm⟩ | ⟨m, t, p, rfl, hno⟩
        · have HM := Lib.hid hm
          have HB2 := Lib.hid hb2
          clear hm hb2
          have hO2 := keep_none HR.out.1 HB2.out
          have hge : w1.heap.size ≤ w2.heap.size := Nat.le_trans HR.out.2.1.size HB2.out.size
          have HO2 := Lib.hid (And.intro hO2 hge)
          clear hO2 hge
          go_wp2_with (at_builtin; refine append_int rfl (.tmp 28) (.tmp 30) rfl w1.heap.size _ k (ints out) m rfl HO2.out.1 w2.heap.size rfl rfl (by omega) HO2.out.2 ?_; intro v' w3 hown hg)
          rw [ints_snoc] at hown
          have hb3 := below_own HO2.out.1 hg HO2.out.2
          clear hg
          go_roundw
          case rel =>
            refine ⟨k + 1, out ++ [m], by go_num, HLT.out, hown, Lib.hid (fun x hx e => ?_), (HR.out.2.1.trans (HB2.out.mono HR.out.2.1.size)).trans hb3⟩
            obtain ⟨hkx, hp⟩ := HR.out.2.2.2 x hx e
            rw [take_snoc x k hkx, HO.out x hx e, HM.out _ (okV_I hx _ (getD_mem hkx)) hp]
          case measure => have := HLT.out; simp [intOf]; omega
        · have HF := Lib.hid (And.intro (show ∀ v, okV v = true → s ≠ prnB v from fun v hv e => by
            obtain ⟨hkx, hp⟩ := HR.out.2.2.2 v hv e
            exact hno _ (okV_I hv _ (getD_mem hkx)) hp) (below_then H1.out.1 (below_then HR.out.2.1 hb2)))
          clear hno hb2
          go_wp2_with fail
          go_ret2
          exact VPost.no HF.out.1 HF.out.2
      · obtain rfl : k = L.length := by omega
        obtain ⟨A, c, rfl, hc1, hc2⟩ := own_shape hO
        have hrd := Reads.of_own hO
        have hpr := print_any A L.length c out wr hrd (Nat.le_trans hc1 hc2) ((H.out.1.next H1.out.1).next hB).tabs
        have hall : ∀ x, okV x = true → s = prnB x → out = x := fun x hx e => by
          have h1 := HO.out x hx e
          have h2 : L.length = x.length := by rw [H.out.2.2.2 x hx e, List.length_map]
          rw [h1, h2, List.take_length]
        have hml : L.length ≤ maxLen := Nat.le_trans hc1 hc2
        have hfin : okV out = true → s = prnB out → ∀ w', Below wr.heap.size wr w' → VPost s w (.returned (.tuple #[.slice A L.length c, .int .i64 0])) w' := fun h1 h2 w' hb =>
          ⟨A, L.length, c, out, 0, rfl, .inl ⟨rfl, h1, h2⟩, (hrd.below hb).more hb.size, hml, below_then H1.out.1 (below_then hB hb)⟩
        have HF := Lib.hid (And.intro hpr (And.intro hall (And.intro hfin hB)))
        clear hpr hall hfin hB hO hrd HO hc1 hc2 hml hlt
        unfold PPost prS prE at HF
        cases hok : okV out with
        | false =>
          rw [hok] at HF
          have HNO := Lib.hid (show ∀ v, okV v = true → s ≠ prnB v from fun v hv e => by
            have := HF.out.2.1 v hv e
            rw [this] at hok
            rw [hok] at hv
            exact Bool.noConfusion hv)
          clear hok
          go_wp2_with fail
          refine HF.out.1.mono ?_
          rintro e w2 ⟨rfl, hb2⟩
          have HB2 := Lib.hid (below_then H1.out.1 (below_then HF.out.2.2.2 hb2))
          clear hb2
          go_wp2_with fail
          go_ret2
          exact VPost.no HNO.out HB2.out
        | true =>
          rw [hok] at HF
          have HOK := Lib.hid hok
          clear hok
          by_cases hs : prnB out = s
          · have HE := Lib.hid hs
            rw [hs] at HF
            clear hs
            go_wp2_with fail
            refine HF.out.1.mono ?_
            rintro e w2 ⟨rfl, hb2⟩
            have HB2 := Lib.hid hb2
            clear hb2
            go_wp2_with fail
            go_ret2
            exact HF.out.2.2.1 (by trivial) (by trivial) _ HB2.out
          · have hne := bytes_ne hs
            have HNO := Lib.hid (show ∀ v, okV v = true → s ≠ prnB v from fun v hv e => by
              have := HF.out.2.1 v hv e
              rw [← this] at e
              exact hs e.symm)
            clear hs
            go_wp2_with fail
            refine HF.out.1.mono ?_
            rintro e w2 ⟨rfl, hb2⟩
            have HB2 := Lib.hid (below_then H1.out.1 (below_then HF.out.2.2.2 hb2))
            clear hb2
            go_wp2_with fail
            go_ret2
            exact VPost.no HNO.out HB2.out
end Go.Proofs.YtahgamjfglcenaaDoor
