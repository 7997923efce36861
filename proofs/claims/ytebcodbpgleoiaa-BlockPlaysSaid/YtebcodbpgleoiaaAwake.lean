/- What awake of the laws of package block returns: true. Conditions: none. -/
import Derived.Test.YtebcodbpgleoiaaAbs
set_option linter.unusedVariables false
set_option linter.unusedSimpArgs false
namespace Go.Proofs.Ytebcodbpgleoiaa
open Go Go.RowKit
def abcd : ByteArray := ⟨#[97, 98, 99, 100]⟩
def xy : ByteArray := ⟨#[120, 121]⟩
def xbcd : ByteArray := ⟨#[120, 98, 99, 100]⟩
theorem awake_known : setsP [] (failP [(0, xy)] (setsP [(0, abcd)] (none_ 4)) 0 1) = [xbcd, ⟨#[]⟩, ⟨#[]⟩, ⟨#[]⟩] := by decide +kernel
theorem xbcd_list : (xbcd.toList == [120, 98, 99, 100]) = true := by decide +kernel
set_option maxHeartbeats 2000000 in
theorem awake_any (w : World) : Calls Try.prog 8 #[] w (Gives (.bool true) w) := by
  go_enter Try.func8, Try.ntmps8
  go_wp2_with fail
  refine (a_new 4 (by decide) (by decide) w).mono ?_
  rintro e w1 ⟨d, F, rfl, h1, hF, hb1⟩
  go_wp2_with fail
  refine (a_put h1 0 (by decide) abcd (by decide) (by decide)).mono ?_
  rintro e w2 ⟨rfl, F2, h2, t2⟩
  go_wp2_with fail
  refine (a_sync h2 (by decide)).mono ?_
  rintro e w3 ⟨rfl, h3, t3⟩
  go_wp2_with fail
  refine (a_put h3 0 (by decide) xy (by decide) (by decide)).mono ?_
  rintro e w4 ⟨rfl, F4, h4, t4⟩
  go_wp2_with fail
  refine (a_loose h4).mono ?_
  rintro e w5 ⟨rfl, q5, rfl⟩
  go_wp2_with fail
  refine (a_fail (h4.drewN q5) (by decide) 0 1 (by decide) (by decide) (by decide) (by decide)).mono ?_
  rintro e w6 ⟨rfl, h6, t6⟩
  go_wp2_with fail
  refine (a_get h6 0 (by decide)).mono ?_
  rintro e w7 ⟨rfl, q7, rfl⟩
  have hx := xbcd_list
  rw [show (setsP [] (failP ([] ++ [(0, xy)]) (setsP ([] ++ [(0, abcd)]) (none_ 4)) 0 1)).getD 0 ⟨#[]⟩ = xbcd from by rw [show setsP [] (failP ([] ++ [(0, xy)]) (setsP ([] ++ [(0, abcd)]) (none_ 4)) 0 1) = [xbcd, ⟨#[]⟩, ⟨#[]⟩, ⟨#[]⟩] from awake_known]; rfl]
  go_wp2_with fail
  refine (a_loose (h6.drewN q7)).mono ?_
  rintro e w8 ⟨rfl, q8, rfl⟩
  go_wp2_with fail
  refine (a_blocks (h6.drewN _)).mono ?_
  rintro e w9 ⟨rfl, q9, rfl⟩
  go_wp2_with fail
  go_ret
  refine ⟨rfl, ?_⟩
  have hT := ((t2.trans t3).trans t4).trans ((Turn.drewN _ _ q5).trans t6)
  exact below_drewN (hb1.trans (hT.down hF hb1.size)) _
end Go.Proofs.Ytebcodbpgleoiaa
