/-
  The program's functions of the chapter as the law on components asks them.
-/
import Derived.Test.YtjmjcegaomhdcaaCompAts
import Derived.Test.YtjmjcegaomhdcaaCompsLaw
namespace Go.Proofs.Ytjmjcegaomhdcaa
open Go Go.RowKit

theorem comps_at (W : World) : CompsAt W where
  periodOf _ := fun _ _ _ hz h => implV_periodOf hz h
  componentsOf _ := fun _ _ _ hz h => (implV_componentsOf hz h).mono fun _ _ h => newG_spec h
  reachOf _ := fun _ _ _ hz h => (implV_reachOf hz h).mono fun _ _ h => newG_spec h
  turnsOf _ := fun _ _ _ hz h => (implV_turnsOf hz h).mono fun _ _ h => newA_spec h
  primitiveStep _ := fun _ _ _ hz h => implV_primitiveStep hz h
  isIrreducible _ := fun _ _ _ hz h => implV_isIrreducible hz h
  isPrimitive _ := fun _ _ _ hz h => implV_isPrimitive hz h
end Go.Proofs.Ytjmjcegaomhdcaa
