/-
  A block that has just been made. No conditions.
-/
import Derived.Test.YtdgdkkapikopnaaDoorEB
namespace Go.Proofs.YtdgdkkapikopnaaDoor
theorem Blk.newAt (w : World) (cs : Array Value) (t : TypeId) {g : Nat} (hg : g = w.heap.size) : Blk (w.alloc (.cells cs t)) g cs t := by subst hg; exact Blk.new w cs t
end Go.Proofs.YtdgdkkapikopnaaDoor
