/- Dsk. Conditions: as each part says. -/
import Derived.Test.YtegjjhjgfkcbhaaGreatDoorQ10
import Derived.Deep.OwnRows
set_option linter.unusedVariables false
set_option linter.unusedSimpArgs false
set_option maxRecDepth 100000
set_option maxHeartbeats 16000000
namespace Go.Proofs.YtegjjhjgfkcbhaaGreatDoor
section
open Go Go.RowKit
theorem str_row : (Tryz.prog.info? 9).map (fun i=>(i.zero,i.size,i.bytes)) = some (some (.string ⟨#[]⟩),1,16):=by kernel_rfl
def none_ (n : Nat) : List ByteArray:=List.replicate n ⟨#[]⟩
def Fresh (w : World) (N : Nat) (e : Ending) (w' : World) : Prop :=
 ∃ d bn bs,e = .returned (.tuple #[.pointer (some ⟨d,0,none⟩),.int .i64 0]) /\ DkW w' (fun b=>w.heap.size <= b /\ b < w'.heap.size) d bn bs N (.slice none 0 0) (none_ N) (none_ N) [] /\ Below w.heap.size w w'
theorem fresh_ok (w : World) (n x y : Nat) (hxy : (x = w.heap.size /\ y = w.heap.size + 1) \/ (x = w.heap.size + 1 /\ y = w.heap.size)) (W : World)
  (hW : W = (((w.alloc (.cells (strs (none_ n)).toArray 9)).alloc (.cells (strs (none_ n)).toArray 9)).alloc (.cells #[.pointer (some ⟨w.heap.size + 1 + 1,0,none⟩),.slice (some ⟨x,0,none⟩) n n,.slice (some ⟨y,0,none⟩) n n,.slice none 0 0] 111)).drew) :
  DkW W (fun b=>w.heap.size <= b /\ b < W.heap.size) (w.heap.size + 1 + 1) x y n (.slice none 0 0) (none_ n) (none_ n) [] /\ Below w.heap.size w W:=by
 have hsz : W.heap.size = w.heap.size + 3:=by rw [hW];simp [World.drew]
 have h0 : ∀ z,z = w.heap.size \/ z = w.heap.size + 1 -> W.heap[z]? = some (.cells (strs (none_ n)).toArray 9 (0,0)):=by
  intro z hz
  rw [hW]
  show ((((w.heap.push _).push _).push _))[z]? = _
  rcases hz with rfl | rfl
  ·rw [Array.getElem?_push,if_neg (by simp;omega),Array.getElem?_push,if_neg (by simp),Array.getElem?_push_size]
  ·rw [Array.getElem?_push,if_neg (by simp),Array.getElem?_push,if_pos (by simp)]
 have h2 : W.heap[w.heap.size + 1 + 1]? = some (.cells #[.pointer (some ⟨w.heap.size + 1 + 1,0,none⟩),.slice (some ⟨x,0,none⟩) n n,.slice (some ⟨y,0,none⟩) n n,.slice none 0 0] 111 (0,0)):=by
  rw [hW]
  show ((((w.heap.push _).push _).push _))[_]? = _
  rw [Array.getElem?_push,if_pos (by simp)]
 refine ⟨{
  box:=h2
  now:=h0 x (by omega)
  sure:=h0 y (by omega)
  ln:=by simp [none_]
  ls:=by simp [none_]
  own:=World.ownsRow_nil ..
  boxes:=fun p hp=>by simp at hp
  e1:=by omega
  e2:=by omega
  e3:=by omega
  ev:=fun g hg=>by simp [Value.ownBlock] at hg
  eb:=fun p hp=>by simp at hp
  fd:=by omega
  fn:=by omega
  fs:=by omega
  fv:=fun g hg=>by simp [Value.ownBlock] at hg
  fb:=fun p hp=>by simp at hp
  lt:=fun b hb=>hb.2 },?_⟩
 rw [hW]
 exact (((((Below.refl _ w).alloc (Nat.le_refl _) _).alloc (by simp) _).alloc (by simp;omega) _).drew)
theorem new_any (n : Nat) (h4 : 4 <= n) (hn : n <= 16384) (w : World) : Calls Tryz.prog 28 #[.int .i64 (n : Int)] w (Fresh w n):=by
 have hmk:=run_make_row' (P:=Tryz.prog) 108 9 (.string ⟨#[]⟩) 16 Tryz.underlying108 str_row rfl .i64 .i64 n (by omega) (by omega)
 have hz1 : ¬ (n : Int) < 4:=by omega
 have hz2 : ¬ 16384 < (n : Int):=by omega
 rw [made_strs] at hmk
 go_enter Tryz.func28,Tryz.ntmps28
 go_wp2
 go_region
 all_goals
  go_wp2
  go_ret2
  first
  | exact ⟨_,_,_,rfl,fresh_ok w n _ _ (.inl ⟨rfl,rfl⟩) _ rfl⟩
  | exact ⟨_,_,_,rfl,fresh_ok w n _ _ (.inr ⟨rfl,rfl⟩) _ rfl⟩
section
variable {w w' : World} {F : Nat -> Prop} {d bn bs N : Nat} {v : Value} {nw su : List ByteArray} {L : List (Nat × Nat × ByteArray)}
theorem keep_any (h : DkW w F d bn bs N v nw su L) (k : Nat) (hk : k < N) (s : ByteArray) : Calls Tryz.prog 59 #[.pointer (some ⟨d,0,none⟩),.int .i64 (k : Int),.string s] w fun e w'=>e = .returned (.tuple #[]) /\ w' = w.setCell ⟨bs,k,none⟩ (.string s):=by
 have hc:=h.c2
 have hl:=h.lt d h.fd
 have hl2:=h.lt bs h.fs
 have hz:=h.sure.frozen k
 obtain ⟨u,hu⟩ : ∃ u,w.cell? ⟨bs,k,none⟩ = some (.string u):=⟨_,h.sure.cell (strs_get (by rw [h.ls];exact hk))⟩
 have hkz : (k : Int) < (N : Int):=by omega
 clear h
 go_enter Tryz.func59,Tryz.ntmps59
 go_wp2
 go_end0
 exact ⟨rfl,rfl⟩
theorem forget_any (h : DkW w F d bn bs N v nw su L) (k : Nat) (hk : k < N) (s : ByteArray) : Calls Tryz.prog 62 #[.pointer (some ⟨d,0,none⟩),.int .i64 (k : Int),.string s] w fun e w'=>e = .returned (.tuple #[]) /\ ∃ q,w' = (w.setCell ⟨bn,k,none⟩ (.string (su.getD k ⟨#[]⟩))).drewN q:=by
 have hc:=h.c2
 have hc1:=h.c1
 have hl:=h.lt d h.fd
 have hl2:=h.lt bs h.fs
 have hl3:=h.lt bn h.fn
 have hz:=h.now.frozen k
 have hu:=h.sure.cell (strs_get (l:=su) (j:=k) (by rw [h.ls];exact hk))
 obtain ⟨u,hu2⟩ : ∃ u,w.cell? ⟨bn,k,none⟩ = some (.string u):=⟨_,h.now.cell (strs_get (by rw [h.ln];exact hk))⟩
 have hkz : (k : Int) < (N : Int):=by omega
 generalize su.getD k ⟨#[]⟩ = t at *
 clear h
 go_enter Tryz.func62,Tryz.ntmps62
 go_wp2
 go_region
 all_goals
  go_end0
  exact ⟨rfl,1,rfl⟩
end
end
end Go.Proofs.YtegjjhjgfkcbhaaGreatDoor
