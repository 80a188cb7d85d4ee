/-
  A goal that is proved elsewhere.
-/
import Derived.Test.YtghddknhoiaboaaChecked
namespace Go.Proofs.Ytghddknhoiaboaa

def Gate (G : Prop) : Prop := G
theorem Gate.out {G : Prop} (h : Gate G) : G := h
end Go.Proofs.Ytghddknhoiaboaa
