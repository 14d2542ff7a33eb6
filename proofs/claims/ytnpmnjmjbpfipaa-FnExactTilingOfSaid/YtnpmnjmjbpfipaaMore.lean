/- More small facts on worlds. -/
import Derived.Test.YtnpmnjmjbpfipaaOwn
namespace Go.Proofs.Ytnpmnjmjbpfipaa
open Go.RowKit
set_option linter.unusedVariables false
set_option maxRecDepth 100000

theorem heap_new2 (w : World) (o1 o2 : Obj) : ((w.alloc o1).alloc o2).heap[w.heap.size + 1]? = some o2 := by simpa using heap_new (w.alloc o1) o2
theorem heap_new3 (w : World) (o1 o2 o3 : Obj) : (((w.alloc o1).alloc o2).alloc o3).heap[w.heap.size + 2]? = some o3 := by simpa using heap_new ((w.alloc o1).alloc o2) o3
end Go.Proofs.Ytnpmnjmjbpfipaa
