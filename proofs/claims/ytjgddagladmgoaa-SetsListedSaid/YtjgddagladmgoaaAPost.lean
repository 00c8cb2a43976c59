/-
 What ASet leaves.
-/
import Derived.Test.YtjgddagladmgoaaParts
namespace Go.Proofs.Ytjgddagladmgoaa
open Go.RowKit

/-- A set by value, that stays when the stream is drawn from. -/
def ASetPost (B m : Nat) (w : World) (e : Ending) (w' : World) : Prop := ∃ sv cv S, e = .returned (.agg #[sv, cv]) ∧ (∀ w2, w'.grownBy w2 (some B) → SetAt w2 sv cv S) ∧ S.1.length ≤ 100 ∧ Drawn B m w w'

end Go.Proofs.Ytjgddagladmgoaa
