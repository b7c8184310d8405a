/-
  What the statements' walks ask of package frame, supplied for the developers' code.
-/
import Derived.Test.YtpcmkjmkaggfbaaDoorFrameScan
namespace Go.Proofs.YtpcmkjmkaggfbaaDoor
namespace Fr
theorem have_ : FLaws where
  sum A n c vs ps w hA hn hb hl hld := (sum_any A n c vs ps w hA hn hb hl hld).mono fun _ _ h => ⟨h.1, 0, h.2.symm⟩
  seal_ := seal_any
  first := first_any
  scan := scan_any
end Fr
end Go.Proofs.YtpcmkjmkaggfbaaDoor
