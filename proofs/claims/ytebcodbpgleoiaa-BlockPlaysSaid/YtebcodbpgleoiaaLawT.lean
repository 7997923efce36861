/- The walk of BlockTwice. Conditions: none. -/
import Derived.Test.YtebcodbpgleoiaaOpen
import Derived.Test.YtebcodbpgleoiaaAwake
import Derived.Laws.Bits128
import Derived.StillTailTactics
set_option linter.unusedVariables false
set_option linter.unusedSimpArgs false
namespace Go.Proofs.Ytebcodbpgleoiaa
open Go Go.RowKit
theorem i64_and3 (n : Int) : bits .and .i64 n 3 = n % 4 := by
  have hm : (BitVec.ofInt 64 3).toNat = 2 ^ 2 - 1 := by decide
  have key : (BitVec.ofInt 64 n &&& BitVec.ofInt 64 3).toNat = (n % ((2 ^ 64 : Nat) : Int)).toNat % 2 ^ 2 := by
    rw [BitVec.toNat_and, BitVec.toNat_ofInt, hm, Nat.and_two_pow_sub_one_eq_mod]
  show IntKind.i64.wrap ((BitVec.ofInt 64 n &&& BitVec.ofInt 64 3).toNat : Nat) = n % 4
  rw [key, IntKind.wrap_i64]
  omega
theorem append_str {ops : Array Oper} {rest : List Oper} {o : Oper} {a : Act} {Q : Exit → Act → World → Prop} {W : World} (hgd : o.guard = none) (s x : Operand)
    (ho : o.op = .call { callee := .builtin .append, args := #[s, x], argTypes := #[28, 28] })
    (base : Nat) (v : Value) (n : Nat) (xs : List Value) (z : ByteArray) (hs : a.eval s = v) (hown : W.ownsRow base 9 1 v n xs) (N : Nat) (hN : N = W.heap.size) (hx : a.eval x = .slice (some ⟨N, 0, none⟩) 1 1)
    (hn : n ≤ 1000000) (hbase : base ≤ W.heap.size)
    (h : ∀ v' w', w'.ownsRow base 9 1 v' (n + 1) (xs ++ [.string z]) → W.grownBy w' v.ownBlock → wpList Try.prog ops Q rest (a.put o.dst v') w') :
    wpList Try.prog ops Q (o :: rest) a (W.alloc (.cells #[.string z] 9)) := by
  subst hN
  obtain ⟨i0, hi, hz0, hz1, hz2⟩ := info_parts str_row
  exact append_new hgd s x 28 9 9 ho base i0 (.string ⟨#[]⟩) 1 16 Try.underlying28 hi hz0 hz1 hz2 rfl (by decide) (by decide) v n xs hs hown hx #[.string z] rfl (by intro u hu; simp at hu; subst hu; rfl) (by omega) hbase (fun v' w' a b _ => h v' w' a b)
theorem own_ge {w : World} {base : Nat} {e : TypeId} {size : Nat} {v : Value} {n : Nat} {xs : List Value} (h : w.ownsRow base e size v n xs) : ∀ g, v.ownBlock = some g → base ≤ g := by
  intro g hg
  rcases h.2 with ⟨rfl, rfl⟩ | ⟨g', cap, cur, rfl, hb, _⟩
  · simp [Value.ownBlock] at hg
  · simp [Value.ownBlock] at hg
    omega
theorem putL_len (N : Nat) (l : List (Nat × ByteArray)) (z : Int) (s : ByteArray) : (putL N l z s).length ≤ l.length + 1 := by
  unfold putL
  cases putB N z s <;> simp
set_option maxHeartbeats 2000000 in
theorem blockTwice_walk (A : Option Addr) (n c : Nat) (l : List OpT) (a0 a1 b0 b1 : Int) (W : World) (R : Ops W W.heap.size A n l) (hn : n ≤ maxLen)
    (ha0 : -9223372036854775808 ≤ a0 ∧ a0 ≤ 9223372036854775807) (ha1 : -9223372036854775808 ≤ a1 ∧ a1 ≤ 9223372036854775807) (hb0 : -9223372036854775808 ≤ b0 ∧ b0 ≤ 9223372036854775807) (hb1 : -9223372036854775808 ≤ b1 ∧ b1 ≤ 9223372036854775807) :
    Calls Try.prog 7 #[.slice A n c, .agg #[.int .i64 a0, .int .i64 a1], .agg #[.int .i64 b0, .int .i64 b1]] W (Gives (.bool true) W) := by
  obtain ⟨W2, hW2⟩ : ∃ W2, W2 = (W.alloc (.cells #[.int .i64 a0, .int .i64 a1] 48)).alloc (.cells #[.int .i64 b0, .int .i64 b1] 48) := ⟨_, rfl⟩
  have hB2 : Below W.heap.size W W2 := by rw [hW2]; exact ((Below.refl _ W).alloc (Nat.le_refl _) _).alloc (by simp) _
  have hs2 : W2.heap.size = W.heap.size + 2 := by rw [hW2]; simp
  have hra : Row W2 W.heap.size 48 [.int .i64 a0, .int .i64 a1] := by rw [hW2]; exact (Row.new W 48 _).keep (heap_alloc_lt _ _ (by simp))
  have hrb : Row W2 (W.heap.size + 1) 48 [.int .i64 b0, .int .i64 b1] := by
    rw [hW2]
    have := Row.new (W.alloc (.cells #[.int .i64 a0, .int .i64 a1] 48)) 48 [.int .i64 b0, .int .i64 b1]
    simpa using this
  have hR2 : Ops W2 W2.heap.size A n l := ⟨(R.below hB2).row.more hB2.size, R.good⟩
  have H := Lib.hid (And.intro hB2 (And.intro hs2 (And.intro hra (And.intro hrb hR2))))
  have HI := Lib.hid (And.intro ha0 (And.intro ha1 (And.intro hb0 hb1)))
  clear hB2 hra hrb hR2 R ha0 ha1 hb0 hb1
  go_enter Try.func7, Try.ntmps7
  go_wp2_with fail
  rw [← hW2]
  clear hW2
  refine (a_new 8 (by decide) (by decide) W2).mono ?_
  rintro e w1 ⟨d, F, rfl, hD1, hF1, hb1⟩
  by_cases h40 : 40 < n
  · have h40z : (40 : Int) < (n : Int) := by omega
    clear h40
    go_wp2_with fail
    refine (awake_any w1).mono ?_
    rintro e w9 ⟨rfl, hb9⟩
    go_wp2_with fail
    go_ret
    exact ⟨rfl, below_then H.out.1 (below_then hb1 hb9)⟩
  · have h40z : ¬ (40 : Int) < (n : Int) := by omega
    go_wp2_with fail
    go_loopw [9] (fun i wr => ∃ (k : Nat) (F : Nat → Prop) (su : List ByteArray) (ll : List (Nat × ByteArray)), i = .int .i64 (k : Int) ∧ k ≤ n ∧ Disk wr F d 8 su ll ∧ ll.length ≤ k ∧ (∀ b, F b → W2.heap.size ≤ b) ∧ Below W2.heap.size W2 wr) (fun i _ => n - (intOf i).toNat)
    case atStart => exact ⟨0, F, _, _, rfl, Nat.zero_le _, hD1, Nat.le_refl _, hF1, hb1⟩
    case round =>
      obtain ⟨k, G, su, ll, rfl, hk, hD, hll, hG, hB⟩ := hrel
      by_cases hlt : k < n
      · have hltz : (k : Int) < (n : Int) := by omega
        obtain ⟨ad, o, hA, hlk, hgo, hbk, c0, c1, c2, c3⟩ := (H.out.2.2.2.2.below hB).at_ hlt
        subst hA
        have hlen : ll.length ≤ 1000000 := by omega
        go_wp2_with fail
        go_still_tail 11, (by kernel_rfl)
        change wpList _ _ _ _ _ wr.drew
        have hand := i64_and3 o.b
        have hbk' : (ad.add (k * 4)).block < W2.heap.size := by rw [block_of_add]; exact hbk
        have hsz : o.s.size ≤ 9223372036854775807 := by have := hgo.2.2; simp only [maxLen] at this; omega
        have HX := Lib.hid (And.intro hD (And.intro hll (And.intro hG hB)))
        clear hD hll hG hB hgo hlk
        by_cases h3 : o.b % 4 = 3
        · go_wp2_with (go_at_call 12; refine (a_put_any (HX.out.1.drewN 1) o.a o.s hsz hlen).mono ?_; rintro e w3 ⟨rfl, F3, hD3, hT3⟩; have hB3 := hT3.down HX.out.2.2.1 HX.out.2.2.2.size; have c4 := (hB3.cell (p := ⟨(ad.add (k * 4)).block, (ad.add (k * 4)).off + 2, none⟩) hbk').trans c2; have hl4 : (ad.add (k * 4)).block < w3.heap.size := Nat.lt_of_lt_of_le hbk' (Nat.le_trans HX.out.2.2.2.size hB3.size))
          have hF3 := hT3.far HX.out.2.2.1 HX.out.2.2.2.size
          have hBw3 := (below_drewN HX.out.2.2.2 1).trans hB3
          refine (a_sync hD3 (by have := putL_len 8 ll o.a o.s; have := HX.out.2.1; omega)).mono ?_
          rintro e w4 ⟨rfl, hD4, hT4⟩
          have hBw4 := hBw3.trans (hT4.down hF3 hBw3.size)
          clear hB3 c4 hl4 hand
          go_wp2_with fail
          go_roundw
          case rel => exact ⟨k + 1, F3, _, _, by go_num, by omega, hD4, Nat.zero_le _, hF3, hBw4⟩
          case measure => simp [intOf]; omega
        · go_wp2_with (go_at_call 12; refine (a_put_any (HX.out.1.drewN 1) o.a o.s hsz hlen).mono ?_; rintro e w3 ⟨rfl, F3, hD3, hT3⟩; have hB3 := hT3.down HX.out.2.2.1 HX.out.2.2.2.size; have c4 := (hB3.cell (p := ⟨(ad.add (k * 4)).block, (ad.add (k * 4)).off + 2, none⟩) hbk').trans c2; have hl4 : (ad.add (k * 4)).block < w3.heap.size := Nat.lt_of_lt_of_le hbk' (Nat.le_trans HX.out.2.2.2.size hB3.size))
          have hF3 := hT3.far HX.out.2.2.1 HX.out.2.2.2.size
          have hBw3 := (below_drewN HX.out.2.2.2 1).trans hB3
          clear hB3 c4 hl4 hand
          go_wp2_with fail
          go_roundw
          case rel => exact ⟨k + 1, F3, _, _, by go_num, by omega, hD3, by have := putL_len 8 ll o.a o.s; have := HX.out.2.1; omega, hF3, hBw3⟩
          case measure => simp [intOf]; omega
      · have hnl : ¬ (k : Int) < (n : Int) := by omega
        have hlen : ll.length ≤ 1000000 := by omega
        clear hD1 hF1 hb1 F w1
        have a_0 := (H.out.2.2.1.keep (hB.block _ (by rw [hs2]; omega))).cell (j := 0) rfl
        have a_1 := (H.out.2.2.1.keep (hB.block _ (by rw [hs2]; omega))).cell (j := 1) rfl
        have la : W.heap.size < wr.heap.size := by have := hB.size; omega
        have HX := Lib.hid (And.intro hD (And.intro hG hB))
        clear hD hG hB hll
        go_wp2_with fail
        refine (a_fail HX.out.1 hlen a0 a1 HI.out.1.1 HI.out.1.2 HI.out.2.1.1 HI.out.2.1.2).mono ?_
        rintro e w4 ⟨rfl, hD4, hT4⟩
        have hB4 := HX.out.2.2.trans (hT4.down HX.out.2.1 HX.out.2.2.size)
        have HY := Lib.hid (And.intro hD4 (And.intro HX.out.2.1 hB4))
        have hSl : (failP ll su a0 a1).length = 8 := hD4.len
        clear hD4 hT4 hB4 HX a_0 a_1 la hlen
        generalize failP ll su a0 a1 = S at *
        go_wp2_with fail
        have HL := Lib.hid hSl
        clear hSl
        go_loopw [11, 10] (fun i v wr => ∃ k : Nat, i = .int .i64 (k : Int) ∧ k ≤ 8 ∧ wr.ownsRow w4.heap.size 9 1 v k (strs (S.take k)) ∧ Below w4.heap.size w4 wr) (fun i _ _ => 8 - (intOf i).toNat)
        case atStart => exact ⟨0, rfl, by omega, World.ownsRow_nil .., Below.refl _ _⟩
        case round =>
          obtain ⟨j, rfl, hj, hO, hB⟩ := hrel
          by_cases hlt : j < 8
          · have hltz : (j : Int) < 8 := by omega
            have HO := Lib.hid (And.intro hO hB)
            clear hO hB
            go_wp2_with fail
            refine (a_get (HY.out.1.below HO.out.2) j hlt).mono ?_
            rintro e w5 ⟨rfl, q5, rfl⟩
            have hz : (setsP [] S).getD j ⟨#[]⟩ = S.getD j ⟨#[]⟩ := rfl
            rw [hz]
            clear hz
            have htk : strs (S.take j) ++ [.string (S.getD j ⟨#[]⟩)] = strs (S.take (j + 1)) := by
              have hl := HL.out
              rw [List.take_succ_eq_append_getElem (by omega)]
              unfold strs
              rw [List.map_append, List.getD_eq_getElem?_getD, List.getElem?_eq_getElem (by omega)]
              rfl
            have HT := Lib.hid htk
            clear htk
            generalize S.getD j ⟨#[]⟩ = z at *
            go_wp2_with (at_builtin; refine append_str rfl (.tmp 85) (.tmp 87) rfl w4.heap.size _ j (strs (S.take j)) z rfl (show (wr.drewN q5).ownsRow _ _ _ _ _ _ from HO.out.1) (wr.drewN q5).heap.size rfl rfl (by omega) (by have := HO.out.2.size; exact this) ?_; intro v' w' hown hg)
            rw [HT.out] at hown
            have hb5 : Below w4.heap.size w4 w' := (below_drewN HO.out.2 q5).grown hg HO.out.2.size (own_ge HO.out.1)
            clear hg
            go_roundw
            case rel => exact ⟨j + 1, by go_num, by omega, hown, hb5⟩
            case measure => simp [intOf]; omega
          · obtain rfl : j = 8 := by omega
            obtain ⟨g, cap, rfl, hgb, hgl⟩ := hO.form (by omega)
            have hcell : ∀ j, j < 8 → wr.cell? ⟨g, j, none⟩ = some (.string (S.getD j ⟨#[]⟩)) := by
              intro j hj
              have := hO.cells (g := g) rfl j (.string (S.getD j ⟨#[]⟩)) (by rw [List.take_of_length_le (by rw [HL.out]; exact Nat.le_refl _)]; exact strs_get (by rw [HL.out]; exact hj))
              rw [add_flat, Nat.zero_add] at this
              exact this
            have hD := HY.out.1.below hB
            have hgF : ¬ G g := fun hf => by have := HY.out.1.lt g hf; omega
            have hBw : Below W2.heap.size W2 wr := HY.out.2.2.trans (hB.mono HY.out.2.2.size)
            have HO := Lib.hid (And.intro hcell (And.intro hgF (And.intro hD hBw)))
            clear hO hB hcell hgF hD hBw
            go_wp2_with fail
            refine (a_sync HO.out.2.2.1 (by decide)).mono ?_
            rintro e w5 ⟨rfl, hD5, hT5⟩
            have hB5 := HO.out.2.2.2.trans (hT5.down HY.out.2.1 HO.out.2.2.2.size)
            have b_0 := (H.out.2.2.2.1.keep (hB5.block _ (by rw [hs2]; omega))).cell (j := 0) rfl
            have b_1 := (H.out.2.2.2.1.keep (hB5.block _ (by rw [hs2]; omega))).cell (j := 1) rfl
            have lb : W.heap.size + 1 < w5.heap.size := by have := hB5.size; omega
            have H5 := Lib.hid (And.intro hD5 (And.intro hT5 hB5))
            clear hD5 hT5 hB5
            go_wp2_with fail
            refine (a_fail H5.out.1 (by decide) b0 b1 HI.out.2.2.1.1 HI.out.2.2.1.2 HI.out.2.2.2.1 HI.out.2.2.2.2).mono ?_
            rintro e w6 ⟨rfl, hD6, hT6⟩
            have hB6 := H5.out.2.2.trans (hT6.down HY.out.2.1 H5.out.2.2.size)
            have hblk : w6.heap[g]? = wr.heap[g]? := (hT6.block g (Nat.lt_of_lt_of_le hgl H5.out.2.1.size) HO.out.2.1).trans (H5.out.2.1.block g hgl HO.out.2.1)
            have hc6 : ∀ j, j < 8 → w6.cell? ⟨g, j, none⟩ = some (.string (S.getD j ⟨#[]⟩)) := fun j hj => (World.cell?_of_block hblk).trans (HO.out.1 j hj)
            have hl6 : g < w6.heap.size := Nat.lt_of_lt_of_le hgl (Nat.le_trans H5.out.2.1.size hT6.size)
            have H6 := Lib.hid (And.intro hD6 (And.intro hB6 hc6))
            clear hD6 hT6 hB6 hblk hc6 b_0 b_1 lb
            go_wp2_with fail
            have hSS : ∀ j, (setsP [] (failP [] (setsP [] S) b0 b1)).getD j ⟨#[]⟩ = S.getD j ⟨#[]⟩ := fun j => by simp [failP, setsP]
            have HS := Lib.hid hSS
            clear hSS
            go_loopw [14] (fun i wr => ∃ (k q : Nat), i = .int .i64 (k : Int) ∧ k ≤ 8 ∧ wr = w6.drewN q) (fun i _ => 8 - (intOf i).toNat)
            case atStart => exact ⟨0, 0, rfl, by omega, rfl⟩
            case round =>
              obtain ⟨j, q, rfl, hj, rfl⟩ := hrel
              by_cases hlt : j < 8
              · have hltz : (j : Int) < 8 := by omega
                have hcj := H6.out.2.2 j hlt
                have hget := a_get (H6.out.1.drewN q) j hlt
                rw [HS.out j] at hget
                generalize S.getD j ⟨#[]⟩ = z at *
                have HG := Lib.hid hget
                clear hget
                go_wp2_with fail
                refine HG.out.mono ?_
                rintro e w7 ⟨rfl, q7, rfl⟩
                go_wp2_with fail
                go_roundw
                case rel => exact ⟨j + 1, _, by go_num, by omega, rfl⟩
                case measure => simp [intOf]; omega
              · obtain rfl : j = 8 := by omega
                go_wp2_with fail
                refine (awake_any _).mono ?_
                rintro e w8 ⟨rfl, hb8⟩
                go_wp2_with fail
                go_ret
                exact ⟨rfl, below_then H.out.1 (below_then (below_drewN H6.out.2.1 q) hb8)⟩
end Go.Proofs.Ytebcodbpgleoiaa
