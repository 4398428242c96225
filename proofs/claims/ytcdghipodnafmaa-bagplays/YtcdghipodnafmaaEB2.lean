/-
  A block that has just been made. No conditions.
-/
import Derived.Test.YtcdghipodnafmaaEB
namespace Go.Proofs.Ytcdghipodnafmaa
theorem Blk.newAt (w : World) (cs : Array Value) (t : TypeId) {g : Nat} (hg : g = w.heap.size) : Blk (w.alloc (.cells cs t)) g cs t := by subst hg; exact Blk.new w cs t
end Go.Proofs.Ytcdghipodnafmaa
