/-
  All that the statements' walks ask of the program's Log.
-/
import Derived.Test.YtekleamkpfeifaaDoorLogOpen
import Derived.Test.YtekleamkpfeifaaDoorLogRecs
namespace Go.Proofs.YtekleamkpfeifaaDoor
namespace Lg
theorem llaws : LLaws Dk.DObj GObj where
  disk := Dk.dlaws
  stays := GObj.stays
  lt := GObj.lt
  open_ := gopen_any
  append := gappend_any
  sync := fun l p fd fl s sn rs m w hD hG hap _ hm => gsync_any l p fd fl s sn rs m w hD hG hap hm
  compact := gcompact_any
  snap := gsnap_any
  recs := grecs_any
end Lg
end Go.Proofs.YtekleamkpfeifaaDoor
