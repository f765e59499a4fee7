/- The contracts of sealringref.From, Begin and Sum. -/
import Derived.Test.YtmpniingbioggabDoorHRBlock
import Derived.Test.YtmpniingbioggabDoorHRPad
import Derived.Test.YtmpniingbioggabDoorHHash
namespace Go.Proofs.YtmpniingbioggabDoor
open Go.RowKit
set_option linter.unusedSimpArgs false
theorem sOf_extract (xs : List Nat) (a b : Nat) : (sOf xs).extract a b = sOf ((xs.drop a).take (b - a)) := by
  apply ByteArray.ext
  simp [sOf, ByteArray.data_extract]
theorem absN_on (H : R8) (T : List Nat) (k : Nat) : absN H (k + 1) T = mixS (absN H k T) ((T.drop (64 * k)).take 64) := by
  rw [absN_add]; rfl
theorem part64 {T : List Nat} {M k : Nat} (hT : T.length = 64 * M) (hk : k < M) : ((T.drop (64 * k)).take 64).length = 64 := by
  rw [List.length_take, List.length_drop]; omega
end Go.Proofs.YtmpniingbioggabDoor
