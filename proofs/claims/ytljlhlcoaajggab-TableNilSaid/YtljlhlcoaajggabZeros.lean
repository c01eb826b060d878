/- The great zero values, by names of their own. -/
import Derived.Test.YtljlhlcoaajggabFill
namespace Go.Proofs.Ytljlhlcoaajggab

noncomputable def zeroOf (t : TypeId) : Array Value := match (Try.prog.info? t).bind (·.zero) with | some (.agg cs) => cs | _ => #[]
noncomputable def Try.zeroCells50 : Array Value := zeroOf 50
noncomputable def Try.zeroCells80 : Array Value := zeroOf 80
noncomputable def Try.zeroCells64 : Array Value := zeroOf 64
theorem zv50 (w : World) : (zeroValue 50).run Try.prog w = .ok (.agg Try.zeroCells50) w := by kernel_rfl
theorem zv80 (w : World) : (zeroValue 80).run Try.prog w = .ok (.agg Try.zeroCells80) w := by kernel_rfl
theorem zv64 (w : World) : (zeroValue 64).run Try.prog w = .ok (.agg Try.zeroCells64) w := by kernel_rfl
theorem zs50 : Try.zeroCells50.size = 8706 := by kernel_rfl
theorem zs80 : Try.zeroCells80.size = 131 := by kernel_rfl
theorem zs64 : Try.zeroCells64.size = 128 := by kernel_rfl
theorem zn50 : ¬ (Try.zeroCells50 = #[]) := fun h => by have := zs50; rw [h] at this; cases this
theorem zn80 : ¬ (Try.zeroCells80 = #[]) := fun h => by have := zs80; rw [h] at this; cases this
theorem zn64 : ¬ (Try.zeroCells64 = #[]) := fun h => by have := zs64; rw [h] at this; cases this
end Go.Proofs.Ytljlhlcoaajggab
