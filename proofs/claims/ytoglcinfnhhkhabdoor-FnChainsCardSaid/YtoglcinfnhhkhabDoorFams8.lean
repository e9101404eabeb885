/- What the program makes of one family with a function of its own. -/
import Derived.Test.YtoglcinfnhhkhabDoorFams7
import Derived.Test.YtoglcinfnhhkhabDoorLawsB
import Derived.Test.YtoglcinfnhhkhabDoorBits
namespace Go.Proofs.YtoglcinfnhhkhabDoor
open Go.ChangeShapes Go.WideShapes Go.ChangeAt Go.RowKit Go.Proofs

theorem mkfunc (fn : Fn) (first cap : Array Value) (w : World) : (Instr.makeFunc fn first cap).run Tryd.prog w = .ok (.func fn first cap) w := rfl
theorem fam_len {n : Int} {xs : List Int} (h : famB n xs = true) : xs.length ≤ 100000 := by have := famB_len h; omega

theorem new_cell3 (w : World) (cs : Array Value) (t : TypeId) (o o2 : Obj) : (((w.alloc o).alloc o2).alloc (.cells cs t)).heap[w.heap.size + 1 + 1]? = some (.cells cs t (0, 0)) := by
  have := new_cell ((w.alloc o).alloc o2) cs t
  rw [World.size_alloc, World.size_alloc] at this
  exact this
end Go.Proofs.YtoglcinfnhhkhabDoor
