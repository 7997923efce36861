/- What Print of package vec, and the document's, return. Conditions: Go's table of powers of ten lies as start-up lays it. -/
import Derived.Test.YtahgamjfglcenaaDoorInts
import Derived.Test.YtahgamjfglcenaaDoorTxt
import Derived.Test.YtahgamjfglcenaaDoorShelf
import Derived.Lib.AppendIntMem
import Derived.Deep.OwnRows
import Derived.DataShut
set_option linter.unusedVariables false
set_option linter.unusedSimpArgs false
namespace Go.Proofs.YtahgamjfglcenaaDoor
open Go Go.RowKit
theorem heap_set_ne (w : World) (a : Addr) (u : Value) {b : Nat} (h : b ≠ a.block) : (w.setCell a u).heap[b]? = w.heap[b]? := Below.heap_setCell w a u b h
theorem heap_alloc_lt (w : World) (o : Obj) {b : Nat} (h : b < w.heap.size) : (w.alloc o).heap[b]? = w.heap[b]? := Below.heap_alloc w o b h
/-- A row that lies whole in a block. -/
def Row (w : World) (g : Nat) (T : TypeId) (xs : List Value) : Prop := w.heap[g]? = some (.cells xs.toArray T (0, 0))
section
variable {w w' : World} {g : Nat} {T : TypeId} {xs : List Value}
theorem Row.lt (h : Row w g T xs) : g < w.heap.size := (Array.getElem?_eq_some_iff.1 h).1
theorem Row.cell (h : Row w g T xs) {j : Nat} {u : Value} (hj : xs[j]? = some u) : w.cell? ⟨g, j, none⟩ = some u := by
  unfold Row at h
  simp only [World.cell?, h]
  simpa using hj
theorem Row.frozen (h : Row w g T xs) (j : Nat) : w.frozen? ⟨g, j, none⟩ = false := by
  unfold Row at h
  simp only [World.frozen?, h]
  simp
theorem Row.set (h : Row w g T xs) (j : Nat) (u : Value) : Row (w.setCell ⟨g, j, none⟩ u) g T (xs.set j u) := by
  unfold Row at *
  simp only [World.setCell, Array.getElem?_modify, h]
  simp
theorem Row.new (w : World) (T : TypeId) (xs : List Value) : Row (w.alloc (.cells xs.toArray T)) w.heap.size T xs := by
  show (w.heap.push _)[w.heap.size]? = _
  simp
theorem Row.keep (h : Row w g T xs) (e : w'.heap[g]? = w.heap[g]?) : Row w' g T xs := e.trans h
end
/-- Texts as cells. -/
def strs (l : List ByteArray) : List Value := l.map Value.string
theorem strs_get {l : List ByteArray} {j : Nat} (h : j < l.length) : (strs l)[j]? = some (.string (l.getD j ⟨#[]⟩)) := by
  unfold strs
  rw [List.getElem?_map, List.getD_eq_getElem?_getD, List.getElem?_eq_getElem h]
  rfl
theorem strs_set (l : List ByteArray) (j : Nat) (s : ByteArray) : (strs l).set j (.string s) = strs (l.set j s) := by
  unfold strs
  rw [List.map_set]
theorem made_strs (n : Nat) : madeCells #[.string ⟨#[]⟩] n = (strs (List.replicate n ⟨#[]⟩)).toArray := by
  have h := toList_madeCells_one (.string ⟨#[]⟩) n
  unfold strs
  rw [List.map_replicate, ← h, Array.toArray_toList]
theorem str_row : (Tryd.prog.info? 9).map (fun i => (i.zero, i.size, i.bytes)) = some (some (.string ⟨#[]⟩), 1, 16) := by kernel_rfl
def Tabs (w : World) (B : Nat) : Prop := Lib.TabBelow Tryd.prog B w "internal/strconv.uint64pow10" .u64 Lib.pow10Tab
theorem Tabs.on {w w1 : World} {B : Nat} (h : Tabs w B) (hb : Below B w w1) : Tabs w1 B := Lib.TabBelow.on h hb
theorem Tabs.up {w : World} {B C : Nat} (h : Tabs w B) (hB : B ≤ C) : Tabs w C := fun w' hb => h w' (hb.mono hB)
theorem Tabs.next {w w1 : World} (h : Tabs w w.heap.size) (hb : Below w.heap.size w w1) : Tabs w1 w1.heap.size := (h.on hb).up hb.size
theorem itS_size (n : Int) (h : okI n) : (itS n).size ≤ 11 := by
  have := itoa_len h
  show (Lib.itoa n).toArray.size ≤ 11
  simpa using this
theorem itoa_any (n : Int) (h : okI n) (w : World) (hT : Tabs w w.heap.size) : Calls Tryd.prog 11 #[.int .i64 n] w (Gives (.string (itS n)) w) := by
  obtain ⟨h1, h2⟩ := h
  refine (Tryd.strconv_Itoa n (by omega) (by omega) w (hT w (Below.refl _ _))).mono ?_
  rintro e w' ⟨rfl, k, os, rfl⟩
  exact ⟨rfl, Lib.below_grow _ w (Nat.le_refl _) k os⟩
def prS (v : List Int) : ByteArray := bif okV v then prnB v else ⟨#[]⟩
def prE (v : List Int) : Int := bif okV v then 0 else 50
def PPost (v : List Int) (w : World) (e : Ending) (w' : World) : Prop := e = .returned (.tuple #[.string (prS v), .int .i64 (prE v)]) ∧ Below w.heap.size w w'
/-- The row of parts behind so many rounds. -/
def done (v : List Int) (i : Nat) : List ByteArray := (v.take i).map itS ++ List.replicate (v.length - i) ⟨#[]⟩
theorem done_zero (v : List Int) : done v 0 = List.replicate v.length ⟨#[]⟩ := by simp [done]
theorem done_len (v : List Int) (i : Nat) (h : i ≤ v.length) : (done v i).length = v.length := by simp [done]; omega
theorem done_set (v : List Int) (i : Nat) (h : i < v.length) : (done v i).set i (itS (v.getD i 0)) = done v (i + 1) := by
  have h1 : ((v.take i).map itS).length = i := by simp; omega
  have e : v.length - i = (v.length - (i + 1)) + 1 := by omega
  unfold done
  rw [e, List.replicate_succ, List.set_append_right _ _ (by omega), h1, Nat.sub_self, take_snoc v i h]
  simp
theorem done_all (v : List Int) : done v v.length = v.map itS := by simp [done]
theorem join_all (v : List Int) : Lib.join ((v.map itS).map (·.data.toList)) (⟨#[44]⟩ : ByteArray).data.toList = prn v := by
  unfold prn
  congr 1
  rw [List.map_map]
  refine List.map_congr_left fun x _ => ?_
  simp [itS]
theorem prn_le {v : List Int} (h : okV v = true) : (prn v).length ≤ 191 := by
  have := prnB_size h
  have e : (prnB v).size = (prn v).length := by
    show (prn v).toArray.size = _
    simp
  omega
set_option maxHeartbeats 2000000 in
theorem print_any (A : Option Addr) (n c : Nat) (v : List Int) (w : World) (hx : Reads w w.heap.size 1 A n (ints v)) (hm : n ≤ maxLen) (hT : Tabs w w.heap.size) : Calls Tryd.prog 4 #[.slice A n c] w (PPost v w) := by
  have hck := check_any A n c w.heap.size v (n : Int) w hx hm
  have hl := hx.len
  rw [show (n : Int) = (v.length : Int) by omega, ck_self] at hck
  rw [← hl] at hck
  have HCK := Lib.hid hck
  have HL := Lib.hid hl
  have HX := Lib.hid hx
  have HT := Lib.hid hT
  clear hck hl hx hT
  cases hok : okV v with
  | false =>
    rw [hok] at HCK
    have hp : PPost v w = fun e w' => e = .returned (.tuple #[.string ⟨#[]⟩, .int .i64 50]) ∧ Below w.heap.size w w' := by unfold PPost prS prE; rw [hok]; rfl
    rw [hp]
    clear hp hok
    go_enter Tryd.func4, Tryd.ntmps4
    go_wp2_with fail
    refine HCK.out.mono ?_
    rintro e w1 ⟨rfl, q, rfl⟩
    go_wp2_with fail
    go_ret2
    exact ⟨rfl, below_drewN (Below.refl _ _) q⟩
  | true =>
    rw [hok] at HCK
    have hp : PPost v w = fun e w' => e = .returned (.tuple #[.string (prnB v), .int .i64 0]) ∧ Below w.heap.size w w' := by unfold PPost prS prE; rw [hok]; rfl
    rw [hp]
    clear hp
    obtain ⟨h1, h16, hI⟩ := (okV_iff v).1 hok
    have hn16 : n ≤ 16 := by rw [HL.out]; exact h16
    have HI := Lib.hid (And.intro hok hI)
    have hmk := run_make_row' (P := Tryd.prog) 32 9 (.string ⟨#[]⟩) 16 Tryd.underlying32 str_row rfl .i64 .i64 n (by omega) (by omega)
    rw [made_strs] at hmk
    clear h1 h16 hI hok
    go_enter Tryd.func4, Tryd.ntmps4
    go_wp2_with fail
    refine HCK.out.mono ?_
    rintro e w1 ⟨rfl, q, rfl⟩
    go_wp2_with fail
    obtain ⟨W0, hW0⟩ : ∃ W0, W0 = (w.drewN q).alloc (.cells (strs (List.replicate n ⟨#[]⟩)).toArray 9) := ⟨_, rfl⟩
    rw [← hW0]
    have hb0 : Below w.heap.size w W0 := by rw [hW0]; exact (below_drewN (Below.refl _ w) q).alloc (Nat.le_refl _) _
    have hr0 : Row W0 w.heap.size 9 (strs (done v 0)) := by rw [hW0, done_zero, ← HL.out]; exact Row.new (w.drewN q) 9 _
    have H0 := Lib.hid (And.intro hb0 hr0)
    clear hb0 hr0 hW0 hmk
    go_loopw [20] (fun i wr => ∃ k : Nat, i = .int .i64 (k : Int) ∧ k ≤ n ∧ Row wr w.heap.size 9 (strs (done v k)) ∧ Below w.heap.size w wr) (fun i _ => n - (intOf i).toNat)
    case atStart => exact ⟨0, rfl, Nat.zero_le _, H0.out.2, H0.out.1⟩
    case round =>
      clear H0
      obtain ⟨k, rfl, hk, hr, hb⟩ := hrel
      by_cases hlt : k < n
      · have hltz : (k : Int) < (n : Int) := by omega
        have hkv : k < v.length := by rw [← HL.out]; exact hlt
        obtain ⟨ad, hA, hbk, hcell⟩ := (HX.out.below hb).int_at hlt
        subst hA
        have hlad : ad.block < wr.heap.size := Nat.lt_of_lt_of_le hbk hb.size
        have hia := itoa_any (v.getD k 0) (HI.out.2 _ (getD_mem hkv)) wr (HT.out.next hb)
        have hset := done_set v k hkv
        generalize v.getD k 0 = x at *
        have HR := Lib.hid (And.intro hr (And.intro hb (And.intro hia hset)))
        have HKV := Lib.hid hkv
        clear hr hb hia hset hbk hkv
        go_wp2_with fail
        refine HR.out.2.2.1.mono ?_
        rintro e w2 ⟨rfl, hb2⟩
        have hr2 := HR.out.1.keep (hb2.block _ HR.out.1.lt)
        have hcl := hr2.cell (strs_get (l := done v k) (j := k) (by rw [done_len v k (by have := HKV.out; omega)]; exact HKV.out))
        have hfz := hr2.frozen k
        have hlt2 := hr2.lt
        have HR2 := Lib.hid (And.intro hr2 hb2)
        clear hr2 hb2
        generalize (done v k).getD k ⟨#[]⟩ = old at *
        go_wp2_with fail
        go_roundw
        case rel =>
          refine ⟨k + 1, by go_num, by omega, ?_, ?_⟩
          · have := HR2.out.1.set k (.string (itS x))
            rw [strs_set, HR.out.2.2.2] at this
            exact this
          · exact below_setCell (below_then HR.out.2.1 HR2.out.2) (Nat.le_refl _) _
        case measure => simp [intOf]; omega
      · obtain rfl : k = n := by omega
        have hfull : done v k = v.map itS := by rw [HL.out]; exact done_all v
        rw [hfull] at hr
        have hjl := HL.out
        have hj := Tryd.strings_Join w.heap.size 0 k (v.map itS) ⟨#[44]⟩ wr (fun j x hjx => by rw [Nat.zero_add]; exact hr.cell (by unfold strs; rw [List.getElem?_map, hjx]; rfl)) hr.lt (by rw [List.length_map]; omega) (by rw [List.length_map]; omega) (by rw [join_all]; have := prn_le HI.out.1; omega)
        rw [List.length_map, ← HL.out, join_all] at hj
        have HJ := Lib.hid hj
        have HB := Lib.hid hb
        clear hj hr hb hjl hfull
        go_wp2_with fail
        refine HJ.out.mono ?_
        rintro e w2 ⟨rfl, hb2⟩
        go_wp2_with fail
        go_ret2
        exact ⟨rfl, below_then HB.out hb2⟩
end Go.Proofs.YtahgamjfglcenaaDoor
