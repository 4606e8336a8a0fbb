/- It is proved what FamilyAll of the program and of the model return; conditions: those of each statement. -/
import Derived.Test.YticgojhljmgplaaDoorN
namespace Go.Proofs.YticgojhljmgplaaDoor
open Go.RowKit Go.Shelf

attribute [local go_sem] Oper.semAt_some

/-- What a function of an int and a bool returns; nothing that lay has turned. -/
def RetIB (w : World) (r : Int) (ok : Bool) (e : Ending) (w' : World) : Prop := e = .returned (.tuple #[.int .i64 r, .bool ok]) ∧ Below w.heap.size w w'

end Go.Proofs.YticgojhljmgplaaDoor
