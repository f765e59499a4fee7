/- What the contract of sealringref.NewCipher rests on: a cipher that is built, rows of words that stay. -/
import Derived.Test.YtmfbdacalenfdaaAEnc
import Derived.Test.YtmfbdacalenfdaaUpF
import Derived.Test.YtmfbdacalenfdaaUpV
import Derived.Test.YtmfbdacalenfdaaSGet
import Derived.Deep.LoopGhost
namespace Go.Proofs.Ytmfbdacalenfdaa
open Go.RowKit
set_option linter.unusedSimpArgs false
def cz : List Value := .slice none 0 0 :: (zB 256 ++ zB 256)
set_option maxRecDepth 100000 in
theorem zero_cph : (Try.prog.info? 61).map (·.zero) = some (some (.agg cz.toArray)) := by kernel_rfl
set_option maxRecDepth 100000 in
theorem place_cph : ((Try.prog.underlying 61).bind fun d => match d with | .struct fields => fields.toList.mapM (fun f => (Try.prog.info? f.type).map fun i => (f.offset, i.size)) | _ => none) = some [(0, 1), (1, 256), (257, 256)] := by kernel_rfl
theorem built_cph (b : List Nat) (hb : b.length = 256) : Try.prog.built 61 [(1, aB b)] = some (.slice none 0 0 :: (b.map b8 ++ zB 256)).toArray := by
  rw [built_of zero_cph place_cph]
  refine (fill_step (fun x => ([(0, 1), (1, 256), (257, 256)] : List (Nat × Nat)).toArray[x]?) cz.toArray 1 1 (b.map b8) [.slice none 0 0] (zB 256) (zB 256) [] (by rw [List.length_map, hb]; rfl) rfl rfl (by rw [zB_length, List.length_map, hb])).trans ?_
  rw [Instr.fill]
  rfl
theorem wp_buildC {ops : Array Oper} {rest : List Oper} {o : Oper} {a : Act} {Q : Exit → Act → World → Prop} {w : World} (hgd : o.guard = none) (x : Operand) (ho : o.op = .build 61 #[(1, x)]) (b : List Nat) (hb : b.length = 256) (hx : a.eval x = aB b) (cs : List Value) (hc : Hid (cs = .slice none 0 0 :: (b.map b8 ++ zB 256)))
    (h : wpList Try.prog ops Q rest (a.put o.dst (.agg cs.toArray)) w) : wpList Try.prog ops Q (o :: rest) a w := by
  rw [hc.out] at h
  refine wpList_plain hgd fun K hK => ?_
  have e : (Instr.build 61 ((#[(1, x)] : Array (Nat × Operand)).map fun x => (x.fst, a.eval x.snd))).run Try.prog w = .ok (.agg (.slice none 0 0 :: (b.map b8 ++ zB 256)).toArray) w := run_build w 61 _ _ (by simpa [hx] using built_cph b hb)
  unfold Oper.wp
  simp only [execOp, ho, Sem.run_bind, e, Result.andThen_ok, Sem.run_pure]
  exact hK _ _ h
theorem Oq.set_below {w : World} {B : Nat} {v : Value} {ds : List (List Nat)} (h : Oq w B v ds) {k o : Nat} (hk : k < B) (x : Value) : Oq (w.setCell ⟨k, o, none⟩ x) B v ds := ⟨h.1, ownsRow_setCell_below h.2 hk x⟩
theorem Oq.stores_below {B : Nat} {v : Value} {ds : List (List Nat)} {k : Nat} (hk : k < B) : ∀ (vs : List Value) (o : Nat) {w : World}, Oq w B v ds → Oq (w.setCells k o vs) B v ds
  | [], _, _, h => h
  | x :: vs, o, _, h => Oq.stores_below hk vs (o + 1) (h.set_below hk x)
theorem Oq.stores_off {w : World} {B g n c : Nat} {ds : List (List Nat)} (h : Oq w B (.slice (some ⟨g, 0, none⟩) n c) ds) {k : Nat} (hk : g ≠ k) (vs : List Value) (o : Nat) : Oq (w.setCells k o vs) B (.slice (some ⟨g, 0, none⟩) n c) ds := by
  refine ⟨h.1, h.2.1, ?_⟩
  rcases h.2.2 with h' | ⟨g', cap, cur, e, hB, hg, rest⟩
  · exact .inl h'
  · have e2 : g = g' := by
      simp only [Value.slice.injEq, Option.some.injEq, Addr.mk.injEq] at e
      exact e.1.1
    exact .inr ⟨g', cap, cur, e, hB, by rw [heap_setCells_off k g' (by omega)]; exact hg, rest⟩
/-- A byte of a text by its place. -/
theorem run_idxS (T : ByteArray) (j : Nat) (hj : j < T.size) (k : IntKind) (w : World) : (Instr.index 9 (.string T) (.int k (j : Int))).run Try.prog w = .ok (b8 (T[j]'hj).toNat) w := by
  have h1 : (j : Int) < (T.size : Int) := by omega
  simp [Instr.index, run_underlying (show Try.prog.underlying 9 = some .string by kernel_rfl), asIntOf, go_sem, hj, h1]
/-- A word stored whole into a variable that was made. -/
theorem store_a4 {a : Act} {q : Oper} {x y : Operand} (hq : q.op = .store 25 x y) (k : Nat) (l : List Nat) (hl : l.length = 4) (W : World) (hx : a.eval x = .pointer (some ⟨k, 0, none⟩)) (hy : a.eval y = aB l) (hc : W.heap[k]? = some (.cells #[Value.int IntKind.u8 0, Value.int IntKind.u8 0, Value.int IntKind.u8 0, Value.int IntKind.u8 0] 25)) (B : Nat) :
    ∃ w2, (execOp a.eval q).run Try.prog W = .ok .skip w2 ∧ w2.heap[k]? = some (.cells (l.map b8).toArray 25) ∧ (B ≤ k → Below B W w2) ∧ ∀ b, b ≠ k → w2.heap[b]? = W.heap[b]? := by
  have hb : Blk W k (zB 4) := Blk.of_heap hc
  have ht : W.there k 0 (l.map b8).toArray.size := hb.there (by rw [List.size_toArray, List.length_map, hl, zB_length]; omega)
  have hi : (Try.prog.info? 25).map (·.size) = some (l.map b8).toArray.size := by rw [List.size_toArray]; exact info_n info_a4 l hl
  refine ⟨W.setCells k 0 (l.map b8), ?_, ?_, fun hk => below_setCells _ _ _ (Below.refl _ _) hk, fun b hbk => heap_setCells_off k b hbk _ _ _⟩
  · have := run_storeAt_mid (P := Try.prog) W k 0 25 (l.map b8).toArray ht hi (all_oneCell_toArray (one_b8 l))
    unfold execOp
    simp only [hq, hx, hy, Sem.run_bind, this, Result.andThen_ok, Sem.run_pure]
  · have := heap_setCells_at k 25 (0, 0) (l.map b8) [] (zB 4) [] W (by rw [List.append_nil]; exact hc) (by rw [zB_length, List.length_map, hl])
    rw [List.append_nil] at this
    exact this
end Go.Proofs.Ytmfbdacalenfdaa
