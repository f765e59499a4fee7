/- Texts that were joined: Arr, HOpen. -/
import Derived.ProofKit
import Derived.OpenShut
import Derived.Test.YtdcpicbkemmakaaDoorQBKToHB
import Derived.Deep.SlicePairs
import Derived.Carry
/- An array of integers among the arguments: its value and its datum out of its reading, and its reading again in whatever world. Over any program. -/
namespace Go.Proofs.YtdcpicbkemmakaaDoor
open Go.ChangeShapes Go.WideShapes Go.ChangeAt Go.RowKit
section
variable {P : Program} {H : Type} {enc : TypeId × Value → H} {w : World} {base : Nat} {spare : Nat → Bool} {held : Bool}

theorem mapM_some {α β : Type} {f : α → Option β} {g : α → β} : ∀ l : List α, (∀ i ∈ l, f i = some (g i)) → l.mapM f = some (l.map g)
  | [], _ => by simp
  | i :: l, h => by
    have ih := mapM_some l (fun j hj => h j (by simp [hj]))
    simp [List.mapM_cons, h i (by simp), ih]

theorem take_one {α : Type} {l : List α} {i : Nat} {v : α} (h : (l.drop i).take 1 = [v]) : l[i]? = some v := by
  have := congrArg (fun m => m[0]?) h
  simpa using this

theorem trod_arr {t e : TypeId} {n fuel : Nat} {k : IntKind} {cs : List Value} {x : DataW H × List MemPlace} (ht : P.underlying t = some (.array n e)) (hu : P.underlying e = some (.int k)) (hce : P.cellsOf e = 1) (hct : P.cellsOf t = n)
    (h : DataW.trod enc P w base spare held fuel t cs = some x) :
    ∃ xs : List Int, xs.length = n ∧ cs = xs.map (Value.int k) ∧ x = (.agg (xs.map fun i => .lit (.int k i)), []) ∧ ∀ i ∈ xs, (Lit.int k i).wf = true := by
  obtain ⟨ys, m, _, hx, hl, hn, hall⟩ := DataW.trod_array ht h
  have each : ∀ i, ∃ z : Int, i < n → cs[i]? = some (.int k z) ∧ ys[i]? = some (.lit (.int k z), []) ∧ (Lit.int k z).wf = true := by
    intro i
    by_cases hi : i < n
    · have hy : ys[i]? = some ys[i] := by rw [List.getElem?_eq_getElem]
      have ht' := hall i hi
      rw [hce, Nat.mul_one, hy] at ht'
      obtain ⟨z, hc, he, hw⟩ := DataW.trod_int hu ht'
      exact ⟨z, fun _ => ⟨take_one hc, by rw [hy, he], hw⟩⟩
    · exact ⟨0, fun h => absurd h hi⟩
  obtain ⟨Z, hZ⟩ := Classical.skolem.1 each
  refine ⟨(List.range n).map Z, by simp, ?_, ?_, ?_⟩
  · apply List.ext_getElem?
    intro i
    by_cases hi : i < n
    · rw [(hZ i hi).1]; simp [hi]
    · rw [List.getElem?_eq_none (by omega), List.getElem?_eq_none (by simp; omega)]
  · have e1 : ys = ((List.range n).map fun i => (DataW.lit (Lit.int k (Z i)), ([] : List MemPlace))) := by
      apply List.ext_getElem?
      intro i
      by_cases hi : i < n
      · rw [(hZ i hi).2.1]; simp [hi]
      · rw [List.getElem?_eq_none (by omega), List.getElem?_eq_none (by simp; omega)]
    rw [hx, e1]
    simp [List.flatMap, Function.comp_def]
  · intro i hi
    simp at hi
    obtain ⟨j, hj, rfl⟩ := hi
    exact (hZ j hj).2.2

/-- An array of integers as an argument. -/
theorem open_arr {t e : TypeId} {n : Nat} {k : IntKind} {W : World} {b0 : Nat} {v : Value} {d : DataW H} {p : List MemPlace} (ht : P.underlying t = some (.array n e)) (hu : P.underlying e = some (.int k)) (hce : P.cellsOf e = 1) (hct : P.cellsOf t = n)
    (hv : Value.okWide P W .any b0 t v) (h : DataW.Trod enc P w base spare held t v d p) :
    ∃ xs : List Int, xs.length = n ∧ v = .agg (xs.map (Value.int k)).toArray ∧ d = .agg (xs.map fun i => .lit (.int k i)) ∧ p = [] ∧ ∀ i ∈ xs, (Lit.int k i).wf = true := by
  obtain ⟨cs, rfl, _, _⟩ : ∃ cs, v = .agg cs ∧ cs.size = P.cellsOf t ∧ Row.okWide P W .any b0 t cs := by
    simpa [Value.okWide, ht] using hv
  obtain ⟨fuel, hf⟩ := h
  obtain ⟨xs, h1, h2, h3, h4⟩ := trod_arr ht hu hce hct hf
  obtain ⟨cs⟩ := cs
  simp only [Value.cells] at h2
  simp only [Prod.mk.injEq] at h3
  exact ⟨xs, h1, by rw [h2], h3.1, h3.2, h4⟩

/-- It reads so again, in whatever world. -/
theorem shut_arr {t e : TypeId} {n : Nat} {k : IntKind} (ht : P.underlying t = some (.array n e)) (hu : P.underlying e = some (.int k)) (hce : P.cellsOf e = 1) (hct : P.cellsOf t = n)
    {xs : List Int} (hl : xs.length = n) (hwf : ∀ i ∈ xs, (Lit.int k i).wf = true) :
    DataW.Trod enc P w base spare held t (.agg (xs.map (Value.int k)).toArray) (.agg (xs.map fun i => .lit (.int k i))) [] := by
  refine ⟨2, ?_⟩
  unfold DataW.trod
  rw [ht]
  simp only [Value.cells, List.length_map, hl, hct, if_true]
  rw [mapM_some (g := fun i => (DataW.lit (Lit.int k (xs.getD i 0)), ([] : List MemPlace)))]
  · simp only [Option.map_some, List.map_map]
    have e1 : (List.range n).map (fun i => DataW.lit (H := H) (Lit.int k (xs.getD i 0))) = xs.map fun i => .lit (.int k i) := by
      apply List.ext_getElem?
      intro i
      by_cases hi : i < n
      · simp [hi, List.getElem?_eq_getElem (hl ▸ hi : i < xs.length)]
      · rw [List.getElem?_eq_none (by simp; omega), List.getElem?_eq_none (by simp; omega)]
    simp only [Function.comp_def, e1]
    simp [List.flatMap]
  · intro i hi
    have hi : i < xs.length := by rw [hl]; exact List.mem_range.1 hi
    have hd : ((xs.map (Value.int k)).drop (i * P.cellsOf e)).take (P.cellsOf e) = [.int k (xs.getD i 0)] := by
      rw [hce, Nat.mul_one, List.take_one, List.head?_drop]
      simp [hi]
    rw [hd]
    unfold DataW.trod
    rw [hu]
    have hw := hwf (xs.getD i 0) (by simp [List.getD, List.getElem?_eq_getElem hi])
    simpa using hw
end

/-- What is read of a uint64. -/
theorem word_of_wf {x : Int} (h : (Lit.int .u64 x).wf = true) : 0 ≤ x ∧ x < 18446744073709551616 := by
  simp [Lit.wf, IntKind.min, IntKind.max, IntKind.signed, IntKind.bits] at h
  exact ⟨by omega, by omega⟩
theorem byte_of_wf {x : Int} (h : (Lit.int .u8 x).wf = true) : 0 ≤ x ∧ x < 256 := by
  simp [Lit.wf, IntKind.min, IntKind.max, IntKind.signed, IntKind.bits] at h
  exact ⟨by omega, by omega⟩
theorem int_of_wf {x : Int} (h : (Lit.int .i64 x).wf = true) : -9223372036854775808 ≤ x ∧ x ≤ 9223372036854775807 := by
  simp [Lit.wf, IntKind.min, IntKind.max, IntKind.signed, IntKind.bits] at h
  exact ⟨by omega, by omega⟩
theorem list4 (l : List Int) (h : l.length = 4) : ∃ a b c d, l = [a, b, c, d] := by
  match l, h with
  | [a, b, c, d], _ => exact ⟨a, b, c, d, rfl⟩
end Go.Proofs.YtdcpicbkemmakaaDoor

/- A slice of bytes among the arguments: what it holds, out of its reading; small closed facts that a row's proof asks for. -/
namespace Go.Proofs.YtdcpicbkemmakaaDoor
open Go.ChangeShapes Go.WideShapes Go.ChangeAt Go.RowKit Go.Deep
theorem Tryd.own : ownKnob Tryd.prog.godebug = none := by kernel_rfl
theorem Tryd.cellsU8 : Tryd.prog.cellsOf 5 = 1 := by kernel_rfl
section
variable {H : Type} {enc : TypeId × Value → H} {w : World} {base : Nat} {spare : Nat → Bool} {held : Bool}
def lowB (xs : List Nat) : Prop := ∀ x ∈ xs, x < 256
theorem spotless {w : World} {a : Addr} {v : Value} (h : w.cell? a = some v) : a = ⟨a.block, a.off, none⟩ := by
  obtain ⟨b, o, s⟩ := a
  cases s with
  | none => rfl
  | some s =>
    unfold World.cell? at h
    split at h <;> simp at h
theorem by_of_trod {fuel : Nat} {u : Value} {x : DataW H × List MemPlace} (h : DataW.trod enc Tryd.prog w base spare held fuel 25 [u] = some x) : ∃ xs, lowB xs ∧ By w u xs ∧ xs.length ≤ maxLen := by
  rcases open_ints Tryd.uBytes Tryd.uU8 Tryd.cellsU8 h with ⟨hcs, hx⟩ | ⟨a, len, cap, zs, hcs, _, hl, hm, hz, hx, hcell, hwz⟩
  · obtain rfl : u = .slice none 0 0 := by simpa using hcs
    exact ⟨[], by simp [lowB], By.nil w, by simp⟩
  · obtain rfl : u = .slice (some a) len cap := by simpa using hcs
    have hle : len ≤ zs.length := by
      rw [hz]
      by_cases hs : spare a.block = true <;> simp [hs] <;> omega
    have hlen : ((zs.take len).map Int.toNat).length = len := by simp; omega
    refine ⟨(zs.take len).map Int.toNat, ?_, ⟨some a, cap, by rw [hlen], by rw [hlen]; exact hl, (fun h => by cases h), fun hp => ?_⟩, by rw [hlen]; omega⟩
    · intro y hy
      simp only [List.mem_map] at hy
      obtain ⟨z, hz1, rfl⟩ := hy
      have := byte_of_wf (hwz z (List.mem_of_mem_take hz1))
      omega
    · rw [hlen] at hp
      have h0 := hcell 0 (by omega)
      rw [Addr.add_zero'] at h0
      have hs := spotless h0
      refine ⟨a.block, a.off, congrArg some hs, fun j hj => ?_⟩
      rw [hlen] at hj
      have hc := hcell j (by omega)
      rw [hs, Addr.add_lit] at hc
      rw [hc]
      have hb := byte_of_wf (hwz (zs.getD j 0) (by rw [List.getD_eq_getElem?_getD, List.getElem?_eq_getElem (by omega)]; simp))
      have e : ((zs.take len).map Int.toNat).getD j 0 = (zs.getD j 0).toNat := by
        simp [List.getD_eq_getElem?_getD, hj, List.getElem?_eq_getElem (show j < zs.length by omega)]
      rw [e]
      simp only [b8]
      rw [show (((zs.getD j 0).toNat : Nat) : Int) = zs.getD j 0 by omega]
end
theorem Tryd.laidOut : laidOutB Tryd.prog = true := by kernel_rfl
end Go.Proofs.YtdcpicbkemmakaaDoor
