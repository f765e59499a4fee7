/- Texts that were joined: HEq, MdOne. -/
import Derived.Test.YtmfbdacalenfdaaBs
import Derived.Test.YtmfbdacalenfdaaMdC
/- The contract of bytes.Equal. -/
namespace Go.Proofs.Ytmfbdacalenfdaa
open Go.RowKit
set_option linter.unusedSimpArgs false
set_option maxHeartbeats 1000000 in
theorem equal_fun (u v : Value) (xs ys : List Nat) (hx : ∀ x ∈ xs, x < 256) (hy : ∀ y ∈ ys, y < 256) (w : World) (hu : By w u xs) (hv : By w v ys) :
    Calls Try.prog 17 #[u, v] w fun e w' => e = .returned (.bool (decide (xs = ys))) ∧ Below w.heap.size w w' := by
  have HU : Hid (By w u xs) := hu
  have HV : Hid (By w v ys) := hv
  have HE : Hid _ := sOf_beq hx hy
  clear hu hv hx hy
  go_enter Try.func17, Try.ntmps17
  go_wp2_with (first | (refine wp_conv rfl (.tmp 5) rfl _ xs rfl HU.out ?_) | (refine wp_conv rfl (.tmp 7) rfl _ ys rfl HV.out ?_))
  rw [HE.out]
  go_ret
  exact ⟨rfl, Below.refl _ _⟩
end Go.Proofs.Ytmfbdacalenfdaa

/- ModeOne out of the contracts of packages aes and mode. -/
namespace Go.Proofs.Ytmfbdacalenfdaa
open Go.RowKit
set_option linter.unusedSimpArgs false
attribute [local go_sem] YieldsP execOp
attribute [local simp] MP.eq_p
/-- A row read whole, behind a guard. -/
theorem wp_ldG {P : Program} {ops : Array Oper} {rest : List Oper} {o : Oper} {a : Act} {w : World} {Q : Exit → Act → World → Prop} (hgd : Region.wanted o (yielded ops a.tmps) = true) (ty : TypeId) (x : Operand) (ho : o.op = .load ty x)
    (b f : Nat) (hx : a.eval x = .pointer (some ⟨b, f, none⟩)) (cs : List Value) (d : TypeDesc) (hc : w.rangeAt b f cs) (hu : P.underlying ty = some d) (hd : d.isRow = true) (hi : (P.info? ty).map (·.size) = some cs.length)
    (h : wpList P ops Q rest (a.put o.dst (.agg cs.toArray)) w) : wpList P ops Q (o :: rest) a w :=
  wpList_step fun K hK => by simp only [hgd, if_true]; exact wp_load_mid ty x ho b f hx cs d hc hu hd hi (hK _ _ h)
theorem openS_low {ws : List (List Nat)} (hw : A.okW ws) {iv c q : List Nat} (hi : A.ok 16 iv) (hc : ∀ x ∈ c, x < 256) (h16 : c.length % 16 = 0) (h : A.openS ws iv c = some q) : (∀ x ∈ q, x < 256) ∧ q.length ≤ c.length := by
  have hO := A.openB_ok hw (c.length / 16) hi ⟨(by omega : c.length = 16 * (c.length / 16)), hc⟩
  unfold A.openS at h
  cases e : A.padOf (A.openB ws (c.length / 16) iv c) with
  | none => rw [e] at h; cases h
  | some n =>
    rw [e] at h
    simp only [Option.some.injEq] at h
    rw [← h]
    exact ⟨fun x hx => hO.2 x (List.mem_of_mem_take hx), by rw [List.length_take]; omega⟩
end Go.Proofs.Ytmfbdacalenfdaa
