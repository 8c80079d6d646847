/- A name, in a region that draws. -/
import Derived.Test.YtaninhajnfgkkaaDoorNm
namespace Go.Proofs.YtaninhajnfgkkaaDoor.Nm
set_option maxRecDepth 8000
open Go.RowKit
theorem spec_q (s : ByteArray) (b : Bool) (hb : nameOk s = b) (w : World) (hs : s.size ≤ maxLen) : Calls Tryd.prog 18 #[.string s] w fun e w' => e = .returned (.bool b) ∧ w' = w :=
  (spec_any s w hs).mono fun e w' ⟨h1, h2⟩ => ⟨by rw [h1, hb], h2.symm⟩
theorem impl_q (s : ByteArray) (b : Bool) (hb : nameOk s = b) (w : World) (hs : s.size ≤ maxLen) : Calls Tryd.prog 29 #[.string s] w fun e w' => e = .returned (.bool b) ∧ w = w' :=
  (impl_any s w hs).mono fun e w' ⟨h1, h2⟩ => ⟨by rw [h1, hb], h2⟩
end Go.Proofs.YtaninhajnfgkkaaDoor.Nm
