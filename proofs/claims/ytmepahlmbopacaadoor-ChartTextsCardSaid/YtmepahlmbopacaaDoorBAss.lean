/- What an assertion gives at a value that is held. Conditions: none. -/
import Derived.Test.YtmepahlmbopacaaDoorBRdA
set_option linter.unusedVariables false
set_option linter.unusedSimpArgs false
namespace Go.Proofs.YtmepahlmbopacaaDoor.Be
open Go Go.RowKit
theorem as_27_27 (x : Value) (w : World) : (Instr.typeAssert (.iface 27 x) 20 27 true).run Tryd.prog w = .ok (.tuple #[x, .bool true]) w := by kernel_rfl
theorem as_3_27 (x : Value) (w : World) : (Instr.typeAssert (.iface 3 x) 20 27 true).run Tryd.prog w = .ok (.tuple #[.int .i64 0, .bool false]) w := by kernel_rfl
theorem as_9_27 (x : Value) (w : World) : (Instr.typeAssert (.iface 9 x) 20 27 true).run Tryd.prog w = .ok (.tuple #[.int .i64 0, .bool false]) w := by kernel_rfl
theorem as_63_27 (x : Value) (w : World) : (Instr.typeAssert (.iface 129 x) 20 27 true).run Tryd.prog w = .ok (.tuple #[.int .i64 0, .bool false]) w := by kernel_rfl
theorem as_3_3 (x : Value) (w : World) : (Instr.typeAssert (.iface 3 x) 20 3 true).run Tryd.prog w = .ok (.tuple #[x, .bool true]) w := by kernel_rfl
theorem as_9_3 (x : Value) (w : World) : (Instr.typeAssert (.iface 9 x) 20 3 true).run Tryd.prog w = .ok (.tuple #[.int .i64 0, .bool false]) w := by kernel_rfl
theorem as_63_3 (x : Value) (w : World) : (Instr.typeAssert (.iface 129 x) 20 3 true).run Tryd.prog w = .ok (.tuple #[.int .i64 0, .bool false]) w := by kernel_rfl
theorem as_9_9 (x : Value) (w : World) : (Instr.typeAssert (.iface 9 x) 20 9 true).run Tryd.prog w = .ok (.tuple #[x, .bool true]) w := by kernel_rfl
theorem as_63_9 (x : Value) (w : World) : (Instr.typeAssert (.iface 129 x) 20 9 true).run Tryd.prog w = .ok (.tuple #[.string ⟨#[]⟩, .bool false]) w := by kernel_rfl
theorem as_63_63 (x : Value) (w : World) : (Instr.typeAssert (.iface 129 x) 20 129 true).run Tryd.prog w = .ok (.tuple #[x, .bool true]) w := by kernel_rfl
end Go.Proofs.YtmepahlmbopacaaDoor.Be
