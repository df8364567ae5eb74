/-
  Plain arithmetic of parities: what a row is behind k bytes, what it is behind k columns. No conditions beyond those that each theorem types.
-/
import Derived.Test.YtigclcnkmbokhaaFieldGauss
import Derived.Test.YtigclcnkmbokhaaFieldPows
namespace Go.Proofs.Ytigclcnkmbokhaa.M

/-- byte j of a row T behind k bytes of c times X -/
def mixR (T X : Nat → Nat) (c k j : Nat) : Nat := if j < k then T j ^^^ gmul c (X j) else T j
/-- byte v of what parity j makes of k columns -/
def par (k j : Nat) (x : Nat → Nat → Nat) (v : Nat) : Nat := xsum k fun i => gmul (pw (i * j)) (x i v)
theorem par_lt (k j : Nat) (x : Nat → Nat → Nat) (v : Nat) : par k j x v < 256 := xsum_lt fun _ _ => gmul_lt _ _
theorem par_succ (k j : Nat) (x : Nat → Nat → Nat) (v : Nat) : par (k + 1) j x v = par k j x v ^^^ gmul (pw (k * j)) (x k v) := rfl
theorem pw_any_lt (m : Nat) : pw m < 256 := by
  rw [← pw_mod]; exact pw_lt (Nat.mod_lt _ (by omega))
end Go.Proofs.Ytigclcnkmbokhaa.M
