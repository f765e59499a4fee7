/- Texts that were joined: Made, KnT. -/
import Derived.Test.YtpnfopakkaoibaaRows
import Derived.Test.YtpnfopakkaoibaaQNumToKn
import Derived.Test.YtpnfopakkaoibaaQUpMToUpS
import Derived.Test.YtpnfopakkaoibaaQUpV3ToKnL
import Derived.Test.YtpnfopakkaoibaaQDDigPToFeN
/- A variable that is made among the operations of a drawn region. -/
namespace Go.Proofs.Ytpnfopakkaoibaa
open Go.RowKit
set_option linter.unusedSimpArgs false
/-- A block that has been made, from B on. -/
def MP.made (B : Nat) (vs : List Value) : MP := ⟨fun v w => ∃ g, v = .pointer (some ⟨g, 0, none⟩) ∧ B ≤ g ∧ KBlk w g vs, fun ⟨g, e, h, hb⟩ hk => ⟨g, e, h, hb.up hk⟩⟩
theorem KBlk.made (w : World) (vs : List Value) (t : TypeId) : KBlk (w.alloc (.cells vs.toArray t)) w.heap.size vs := KBlk.of (t := t) (by show (w.heap.push _)[w.heap.size]? = _; simp)
theorem yields_mk {o : Oper} {a : Act} {w : World} {B : Nat} {T : TypeId} {zs : List Value} (ho : o.op = .alloc T) (hz : ∀ w, (zeroValue T).run Try.prog w = .ok (.agg zs.toArray) w) (hB : B ≤ w.heap.size) : YieldsP Try.prog o a w (MP.made B zs).p := by
  have e : (execOp a.eval o).run Try.prog w = .ok (.value (.pointer (some ⟨w.heap.size, 0, none⟩))) (w.alloc (.cells zs.toArray T)) := by
    unfold execOp
    simp [ho, go_sem, hz]
  unfold YieldsP
  rw [e]
  exact ⟨⟨_, rfl, hB, KBlk.made w zs _⟩, (Below.refl _ _).alloc (Nat.le_refl _) _⟩
theorem run_mk {o : Oper} {T : TypeId} {zs : List Value} (ho : o.op = .alloc T) (hz : ∀ w, (zeroValue T).run Try.prog w = .ok (.agg zs.toArray) w) (a : Act) (w : World) : (execOp a.eval o).run Try.prog w = .ok (.value (.pointer (some ⟨w.heap.size, 0, none⟩))) (w.alloc (.cells zs.toArray T)) := by
  unfold execOp
  simp [ho, go_sem, hz]
end Go.Proofs.Ytpnfopakkaoibaa

/- Pairs of the document's numbers modulo P among the known blocks. -/
namespace Go.Proofs.Ytpnfopakkaoibaa
open Go.RowKit
set_option linter.unusedSimpArgs false
/-- Two numbers modulo P. -/
def twR (x y : Nat) : List Value := fR x ++ fR y
abbrev twV (x y : Nat) : Value := .agg (twR x y).toArray
def tZ : List Value := List.replicate 32 (.int .i64 0)
theorem twR_length (x y : Nat) : (twR x y).length = 32 := by simp [twR, I.row]
theorem tZ_length : tZ.length = 32 := by simp [tZ]
theorem twR_one (x y : Nat) : ∀ v ∈ twR x y, v.oneCell' = true := fun v hv => by
  unfold twR at hv
  rcases List.mem_append.1 hv with h | h
  · exact I.one_dI _ v h
  · exact I.one_dI _ v h
theorem info_t2 : (Try.prog.info? 72).map (·.size) = some 32 := by kernel_rfl
theorem info_twR (x y : Nat) : (Try.prog.info? 72).map (·.size) = some (twR x y).length := by rw [twR_length]; exact info_t2
theorem zero_t2 (w : World) : (zeroValue 72).run Try.prog w = .ok (.agg tZ.toArray) w := I.zero_of (by kernel_rfl) w
theorem Kn.tng0 {w : World} {L : List (Nat × List Value)} (h : Kn w L) (i : Nat) {k x y : Nat} (hp : L[i]? = some (k, twR x y)) : w.rangeAt k 0 (fR x) := (range_app (h.rng i hp)).1
theorem Kn.tng1 {w : World} {L : List (Nat × List Value)} (h : Kn w L) (i : Nat) {k x y : Nat} (hp : L[i]? = some (k, twR x y)) : w.rangeAt k 16 (fR y) := by
  have := (range_app (h.rng i hp)).2
  rwa [fR_length, Nat.zero_add] at this
theorem t2_built (x y : Nat) : Try.prog.built 72 [(0, .agg (fR x).toArray), (1, .agg (fR y).toArray)] = some (twR x y).toArray := by kernel_rfl
theorem run_buildT {T : TypeId} {x y : Operand} {a : Act} {X Y : Value} {cs : List Value} (hx : a.eval x = X) (hy : a.eval y = Y) (hb : Try.prog.built T [(0, X), (1, Y)] = some cs.toArray) (w : World) : (Instr.build T ((#[(0, x), (1, y)] : Array (Nat × Operand)).map fun x => (x.fst, a.eval x.snd))).run Try.prog w = .ok (.agg cs.toArray) w :=
  run_build w T _ _ (by simpa [hx, hy] using hb)
theorem quiet_buildT {ops : Array Oper} {C : World → Prop} {Q : Act → Prop} {o : Oper} {rest : List Oper} {a : Act} (hw : Region.wanted o (yielded ops a.tmps) = true) (T : TypeId) (x y : Operand) (ho : o.op = .build T #[(0, x), (1, y)]) (X Y : Value) (cs : List Value) (hx : a.eval x = X) (hy : a.eval y = Y) (hb : Try.prog.built T [(0, X), (1, Y)] = some cs.toArray)
    (h : wpQuiet Try.prog ops C Q rest (a.put o.dst (.agg cs.toArray))) : wpQuiet Try.prog ops C Q (o :: rest) a := by
  refine BigFrame.wpQuiet_want hw fun K hK => ⟨.agg cs.toArray, fun w _ => ?_, hK _ h⟩
  unfold Oper.quietAt
  have e1 := run_buildT hx hy hb w
  have e : (execOp a.eval o).run Try.prog w = .ok (.value (.agg cs.toArray)) w := by
    simp only [execOp, ho, Sem.run_bind, e1, Result.andThen_ok, Sem.run_pure]
  rw [e]
  exact ⟨rfl, rfl⟩
theorem results_rows2 {P : Program} {fn : Func} {tmps : Array Value} {s s2 : Tmp} {t t2 : TypeId} {b b2 : Nat} {cs cs2 : List Value} {d d2 : TypeDesc} {W : World} (hr : fn.results = #[.cell s t, .cell s2 t2]) (ht : tmps[s]?.getD undef = .pointer (some ⟨b, 0, none⟩)) (ht2 : tmps[s2]?.getD undef = .pointer (some ⟨b2, 0, none⟩)) (hc : W.rangeAt b 0 cs) (hc2 : W.rangeAt b2 0 cs2)
    (hu : P.underlying t = some d) (hd : d.isRow = true) (hi : (P.info? t).map (·.size) = some cs.length) (hu2 : P.underlying t2 = some d2) (hd2 : d2.isRow = true) (hi2 : (P.info? t2).map (·.size) = some cs2.length) : (results fn tmps).run P W = .ok (.tuple #[.agg cs.toArray, .agg cs2.toArray]) W := by
  have h1 := run_loadVar_mid (P := P) W b 0 t cs d hc hu hd hi
  have h2 := run_loadVar_mid (P := P) W b2 0 t2 cs2 d2 hc2 hu2 hd2 hi2
  simp [results, hr, ht, ht2, asAddr, h1, h2]
/-- A slice of one word that has been made. -/
def MP.v1 (x : Int) : MP := ⟨fun v w => ∃ g, v = .slice (some ⟨g, 0, none⟩) 1 1 ∧ KBlk w g [.int .u64 x], fun ⟨g, e, hb⟩ hk => ⟨g, e, hb.up hk⟩⟩
end Go.Proofs.Ytpnfopakkaoibaa
