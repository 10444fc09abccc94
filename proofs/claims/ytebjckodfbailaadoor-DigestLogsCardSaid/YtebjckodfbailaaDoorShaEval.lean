/- The chapter's two examples, reckoned. -/
import Derived.Test.YtebjckodfbailaaDoorShaMath
import Derived.KernelRfl
namespace Go.Proofs.YtebjckodfbailaaDoor.Sha
set_option maxRecDepth 100000
theorem sum_nil : (sumP []).take 4 = [227, 176, 196, 66] := by kernel_rfl
theorem sum_abc : (sumP [97, 98, 99]).take 4 = [186, 120, 22, 191] := by kernel_rfl
end Go.Proofs.YtebjckodfbailaaDoor.Sha
