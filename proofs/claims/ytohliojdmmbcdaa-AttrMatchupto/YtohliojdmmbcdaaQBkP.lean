/- A slice that is handed in counts at least its elements. -/
import Derived.JoinedCond
import Derived.Test.YtohliojdmmbcdaaQOwn
namespace Go.Proofs.Ytohliojdmmbcdaa
open Go.RowKit
theorem bulkP_one {H : Type} (d : DataW H) : 1 ≤ Rows.uptoBulk d := by
  cases d with
  | lit l => cases l <;> simp [Rows.uptoBulk]
  | nil => simp [Rows.uptoBulk]
  | ptr d => simp [Rows.uptoBulk]
  | slice elems spare => simp [Rows.uptoBulk]
  | agg parts => simp [Rows.uptoBulk]
  | iface t d => simp [Rows.uptoBulk]
  | map entries => simp [Rows.uptoBulk]
  | held h => simp [Rows.uptoBulk]
theorem bulkP_all {H : Type} : ∀ l : List (DataW H), l.length ≤ Rows.uptoBulkAll l
  | [] => by simp [Rows.uptoBulkAll]
  | x :: r => by
    have h1 := bulkP_one x
    have h2 := bulkP_all r
    simp only [Rows.uptoBulkAll, List.length_cons]
    omega
theorem bulkP_le {H : Type} (es sp : List (DataW H)) : es.length ≤ Rows.uptoBulk (.slice es sp) := by
  have h1 := bulkP_all es
  simp only [Rows.uptoBulk]
  omega
end Go.Proofs.Ytohliojdmmbcdaa
