import Derived.Test.YtgflalfiopnmnabGmMa
namespace Go.Proofs.Ytgflalfiopnmnab
open Go.RowKit Vl

theorem seen_keyed : Keyed 145 92 151 ptr IsB (fun a b => a == b) (.agg #[]) where
  und := Try.underlying145
  eq := fun u v w hu hv => eq_ptr u v w hu hv 9999
  chk := fun em v w => by kernel_rfl
  now := ⟨_, Try.underlying92, fun u v => rfl⟩
  zero := fun w => by kernel_rfl

end Go.Proofs.Ytgflalfiopnmnab
