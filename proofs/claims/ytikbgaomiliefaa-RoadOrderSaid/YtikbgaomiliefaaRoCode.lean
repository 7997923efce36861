/- The program's road does what the plain one does. Conditions: none. -/
import Derived.Test.YtikbgaomiliefaaRoCe
set_option linter.unusedVariables false
set_option linter.unusedSimpArgs false
set_option maxRecDepth 100000
namespace Go.Proofs.Ytikbgaomiliefaa.Ro
open Go Go.RowKit
def code : Code where
  Is := IsR
  lt := fun h => isr_lt h
  keep := fun h k e => isr_keep h k e
  len := fun h => isr_len h
  new_no := fun k w hk h => new_no k w hk h
  new := fun k w h1 h8 => new_is k w h1 h8
  send := fun l h h1 h2 h3 => send_is l h h1 h2 h3
  next := fun k h h1 => next_is k h h1
  drop := fun k a h h1 h2 => drop_is k a h h1 h2
  twice := fun k a h h1 h2 => twice_is k a h h1 h2
  swap := fun k a h h1 h2 => swap_is k a h h1 h2
  clear := fun k h h1 => clear_is k h h1
  waits := fun k h h1 => waits_is k h h1
end Go.Proofs.Ytikbgaomiliefaa.Ro
