/- Texts that were joined: ANewB, RStr, SlA, RSix. -/
import Derived.Test.YtejabkmhpiabnaaAEnc
import Derived.Test.YtejabkmhpiabnaaUpF
import Derived.Test.YtejabkmhpiabnaaUpV
import Derived.Test.YtejabkmhpiabnaaSGet
import Derived.Deep.LoopGhost
import Derived.Test.YtejabkmhpiabnaaMdMath
import Derived.Test.YtejabkmhpiabnaaGrp20
import Derived.Test.YtejabkmhpiabnaaBs
import Derived.Test.YtejabkmhpiabnaaGrp0
/- What the contract of sealringref.NewCipher rests on: a cipher that is built, rows of words that stay. -/
namespace Go.Proofs.Ytejabkmhpiabnaa
open Go.RowKit
set_option linter.unusedSimpArgs false
def cz : List Value := .slice none 0 0 :: (zB 256 ++ zB 256)
set_option maxRecDepth 100000 in
theorem zero_cph : (Try.prog.info? 46).map (·.zero) = some (some (.agg cz.toArray)) := by kernel_rfl
set_option maxRecDepth 100000 in
theorem place_cph : ((Try.prog.underlying 46).bind fun d => match d with | .struct fields => fields.toList.mapM (fun f => (Try.prog.info? f.type).map fun i => (f.offset, i.size)) | _ => none) = some [(0, 1), (1, 256), (257, 256)] := by kernel_rfl
theorem built_cph (b : List Nat) (hb : b.length = 256) : Try.prog.built 46 [(1, aB b)] = some (.slice none 0 0 :: (b.map b8 ++ zB 256)).toArray := by
  rw [built_of zero_cph place_cph]
  refine (fill_step (fun x => ([(0, 1), (1, 256), (257, 256)] : List (Nat × Nat)).toArray[x]?) cz.toArray 1 1 (b.map b8) [.slice none 0 0] (zB 256) (zB 256) [] (by rw [List.length_map, hb]; rfl) rfl rfl (by rw [zB_length, List.length_map, hb])).trans ?_
  rw [Instr.fill]
  rfl
theorem wp_buildC {ops : Array Oper} {rest : List Oper} {o : Oper} {a : Act} {Q : Exit → Act → World → Prop} {w : World} (hgd : o.guard = none) (x : Operand) (ho : o.op = .build 46 #[(1, x)]) (b : List Nat) (hb : b.length = 256) (hx : a.eval x = aB b) (cs : List Value) (hc : Hid (cs = .slice none 0 0 :: (b.map b8 ++ zB 256)))
    (h : wpList Try.prog ops Q rest (a.put o.dst (.agg cs.toArray)) w) : wpList Try.prog ops Q (o :: rest) a w := by
  rw [hc.out] at h
  refine wpList_plain hgd fun K hK => ?_
  have e : (Instr.build 46 ((#[(1, x)] : Array (Nat × Operand)).map fun x => (x.fst, a.eval x.snd))).run Try.prog w = .ok (.agg (.slice none 0 0 :: (b.map b8 ++ zB 256)).toArray) w := run_build w 46 _ _ (by simpa [hx] using built_cph b hb)
  unfold Oper.wp
  simp only [execOp, ho, Sem.run_bind, e, Result.andThen_ok, Sem.run_pure]
  exact hK _ _ h
theorem Oq.set_below {w : World} {B : Nat} {v : Value} {ds : List (List Nat)} (h : Oq w B v ds) {k o : Nat} (hk : k < B) (x : Value) : Oq (w.setCell ⟨k, o, none⟩ x) B v ds := ⟨h.1, ownsRow_setCell_below h.2 hk x⟩
theorem Oq.stores_below {B : Nat} {v : Value} {ds : List (List Nat)} {k : Nat} (hk : k < B) : ∀ (vs : List Value) (o : Nat) {w : World}, Oq w B v ds → Oq (w.setCells k o vs) B v ds
  | [], _, _, h => h
  | x :: vs, o, _, h => Oq.stores_below hk vs (o + 1) (h.set_below hk x)
theorem Oq.stores_off {w : World} {B g n c : Nat} {ds : List (List Nat)} (h : Oq w B (.slice (some ⟨g, 0, none⟩) n c) ds) {k : Nat} (hk : g ≠ k) (vs : List Value) (o : Nat) : Oq (w.setCells k o vs) B (.slice (some ⟨g, 0, none⟩) n c) ds := by
  refine ⟨h.1, h.2.1, ?_⟩
  rcases h.2.2 with h' | ⟨g', cap, cur, e, hB, hg, rest⟩
  · exact .inl h'
  · have e2 : g = g' := by
      simp only [Value.slice.injEq, Option.some.injEq, Addr.mk.injEq] at e
      exact e.1.1
    exact .inr ⟨g', cap, cur, e, hB, by rw [heap_setCells_off k g' (by omega)]; exact hg, rest⟩
/-- A byte of a text by its place. -/
theorem run_idxS (T : ByteArray) (j : Nat) (hj : j < T.size) (k : IntKind) (w : World) : (Instr.index 9 (.string T) (.int k (j : Int))).run Try.prog w = .ok (b8 (T[j]'hj).toNat) w := by
  have h1 : (j : Int) < (T.size : Int) := by omega
  simp [Instr.index, run_underlying (show Try.prog.underlying 9 = some .string by kernel_rfl), asIntOf, go_sem, hj, h1]
/-- A word stored whole into a variable that was made. -/
theorem store_a4 {a : Act} {q : Oper} {x y : Operand} (hq : q.op = .store 23 x y) (k : Nat) (l : List Nat) (hl : l.length = 4) (W : World) (hx : a.eval x = .pointer (some ⟨k, 0, none⟩)) (hy : a.eval y = aB l) (hc : W.heap[k]? = some (.cells #[Value.int IntKind.u8 0, Value.int IntKind.u8 0, Value.int IntKind.u8 0, Value.int IntKind.u8 0] 23)) (B : Nat) :
    ∃ w2, (execOp a.eval q).run Try.prog W = .ok .skip w2 ∧ w2.heap[k]? = some (.cells (l.map b8).toArray 23) ∧ (B ≤ k → Below B W w2) ∧ ∀ b, b ≠ k → w2.heap[b]? = W.heap[b]? := by
  have hb : Blk W k (zB 4) := Blk.of_heap hc
  have ht : W.there k 0 (l.map b8).toArray.size := hb.there (by rw [List.size_toArray, List.length_map, hl, zB_length]; omega)
  have hi : (Try.prog.info? 23).map (·.size) = some (l.map b8).toArray.size := by rw [List.size_toArray]; exact info_n info_a4 l hl
  refine ⟨W.setCells k 0 (l.map b8), ?_, ?_, fun hk => below_setCells _ _ _ (Below.refl _ _) hk, fun b hbk => heap_setCells_off k b hbk _ _ _⟩
  · have := run_storeAt_mid (P := Try.prog) W k 0 23 (l.map b8).toArray ht hi (all_oneCell_toArray (one_b8 l))
    unfold execOp
    simp only [hq, hx, hy, Sem.run_bind, this, Result.andThen_ok, Sem.run_pure]
  · have := heap_setCells_at k 23 (0, 0) (l.map b8) [] (zB 4) [] W (by rw [List.append_nil]; exact hc) (by rw [zB_length, List.length_map, hl])
    rw [List.append_nil] at this
    exact this
end Go.Proofs.Ytejabkmhpiabnaa

/- The contract of sealringref's Cipher.Streamed. -/
namespace Go.Proofs.Ytejabkmhpiabnaa
open Go.RowKit
set_option linter.unusedSimpArgs false
attribute [local go_sem] YieldsP execOp
attribute [local simp] MP.eq_p
theorem dig_one {x : Nat} (h : x < 65536) : P.Dg [x] ∧ P.dv [x] = x := ⟨fun y hy => by rw [List.mem_singleton.1 hy]; exact h, by simp [P.dv]⟩
theorem dg_low {y : Nat} (h : y < 65536) : (P.dg y).getD 0 0 = y := by
  rcases Nat.eq_zero_or_pos y with rfl | hp
  · rw [P.dg_zero]; rfl
  · rw [P.dg_pos (by omega)]
    show y % 65536 = y
    omega
/-- A slice of one number, made on the spot. -/
theorem sl_one {w : World} {k : Nat} {x : Nat} (h : w.cell? ⟨k, 0, none⟩ = some (.int .i64 (x : Int))) : Sl w (.slice (some ⟨k, 0, none⟩) 1 1) [x] :=
  .inr ⟨k, 0, 1, rfl, Nat.le_refl _, fun j hj => by match j, hj with | 0, _ => simpa using h⟩
theorem sl_nil (w : World) : Sl w (.slice none 0 0) [] := .inl ⟨rfl, rfl⟩
theorem small_n {X : Nat} (h : X < 2 ^ 200) : X < 65536 ^ 64 := Nat.lt_of_lt_of_le h (by decide)
theorem sl_set_byte {w : World} {v : Value} {xs : List Nat} {k u y : Nat} (h : Sl w v xs) (hc : w.cell? ⟨k, u, none⟩ = some (b8 y)) (z : Value) : Sl (w.setCell ⟨k, u, none⟩ z) v xs := by
  rcases h with h | ⟨b, o, c, e, hl, hcell⟩
  · exact .inl h
  · refine .inr ⟨b, o, c, e, hl, fun j hj => ?_⟩
    have h1 := hcell j hj
    have hne : ¬ (b = k ∧ o + j = u) := fun ⟨e1, e2⟩ => by
      rw [e1, e2, hc] at h1
      simp at h1
    rw [← h1]
    refine World.cell?_setCells_out k [z] u w ⟨b, o + j, none⟩ (fun e1 _ => ?_)
    have e1' : b = k := e1
    show o + j < u ∨ u + 1 ≤ o + j
    have : o + j ≠ u := fun e2 => hne ⟨e1', e2⟩
    omega
def MP.byA (xs : List Nat) : MP := ⟨fun v w => By w v xs, fun h hb => h.up hb (Nat.le_refl _)⟩
theorem yields_byA {o : Oper} {a : Act} {w : World} {x : Tmp} (y : Nat) (ho : o.op = .buildSlice 22 1 #[(0, .tmp x)]) (hx : a.tmps.getD x undef = b8 y) : YieldsP Try.prog o a w (MP.byA [y]).p := by
  have hx' : a.tmps[x]?.getD undef = b8 y := by simpa using hx
  have e : (execOp a.eval o).run Try.prog w = .ok (.value (.slice (some ⟨w.heap.size, 0, none⟩) 1 1)) (w.alloc (.cells #[b8 y] 5)) := by
    unfold execOp
    simp [ho, hx', go_sem]
  unfold YieldsP
  rw [e]
  exact ⟨By.one ((cell_top rfl).trans rfl), (al1 w _ _).2⟩
theorem yields_convA {o : Oper} {a : Act} {w : World} {φ : Value → World → Prop} (x : Operand) (ho : o.op = .convert 22 9 x) (v : Value) (xs : List Nat) (hx : a.eval x = v) (hv : By w v xs) (h : φ (.string (sOf xs)) w) : YieldsP Try.prog o a w φ := by
  have e : (execOp a.eval o).run Try.prog w = .ok (.value (.string (sOf xs))) w := by
    unfold execOp
    simp [ho, hx, bytes_conv hv]
  unfold YieldsP
  rw [e]
  exact ⟨h, Below.refl _ _⟩
namespace A
/-- The bytes of a number behind t of them are laid, from the last on. -/
def lastT (N t : Nat) : List Nat := by_ 16 fun q => if 16 - t ≤ q then N / 256 ^ (15 - q) % 256 else 0
theorem lastT_length (N t : Nat) : (lastT N t).length = 16 := by_length _ _
theorem lastT_zero (N : Nat) : lastT N 0 = List.replicate 16 0 := by
  unfold lastT
  refine Eq.trans (by_congr (g := fun _ => 0) fun q hq => if_neg (by omega)) ?_
  rfl
theorem lastT_all (N : Nat) : lastT N 16 = be16 N := by_congr fun _ _ => if_pos (by omega)
theorem lastT_set {N t : Nat} (h : t < 16) : (lastT N t).set (15 - t) (N / 256 ^ t % 256) = lastT N (t + 1) := by
  refine (by_self (l := (lastT N t).set (15 - t) (N / 256 ^ t % 256)) (by rw [List.length_set, lastT_length])).symm.trans (by_congr fun q hq => ?_)
  rw [getD_set _ _ _ _ (by rw [lastT_length]; omega)]
  by_cases e : 15 - t = q
  · rw [if_pos e, if_pos (by omega), show 15 - q = t by omega]
  · rw [if_neg e]
    unfold lastT
    rw [by_get hq]
    by_cases e2 : 16 - t ≤ q
    · rw [if_pos e2, if_pos (by omega)]
    · rw [if_neg e2, if_neg (by omega)]
end A
end Go.Proofs.Ytejabkmhpiabnaa

/- An array sliced whole; bytes of a block as a slice; bytes one behind the other. -/
namespace Go.Proofs.Ytejabkmhpiabnaa
open Go.RowKit
set_option linter.unusedSimpArgs false
theorem low_app {a b : List Nat} (ha : ∀ x ∈ a, x < 256) (hb : ∀ x ∈ b, x < 256) : ∀ x ∈ a ++ b, x < 256 := fun x hx => (List.mem_append.1 hx).elim (ha x) (hb x)
theorem low_rep (n : Nat) : ∀ x ∈ List.replicate n 0, x < 256 := fun x hx => by rw [(List.mem_replicate.1 hx).2]; decide
theorem slice_all {t e : TypeId} {n : Nat} (ht : Try.prog.underlying t = some (.array n e)) (hz : (Try.prog.info? e).map (·.size) = some 1) (hn : 0 < n) (b o : Nat) (w : World) :
    (Instr.sliceAt t (.pointer (some ⟨b, o, none⟩)) none none none).run Try.prog w = .ok (.slice (some ⟨b, o, none⟩) n n) w := by
  have ha : Try.prog.arrayLen t = n := by simp [Program.arrayLen, ht]
  have he : Try.prog.elem t = e := by simp [Program.elem, ht]
  rw [run_sliceAt_array_all w t ⟨b, o, none⟩ (by rw [ha, he]; exact ht), ha, he]
  cases hq : Try.prog.info? e with
  | none => simp [hq] at hz
  | some i =>
    have hi : i.size = 1 := by simpa [hq] using hz
    simp [sizeOf, typeInfo, hq, hi, slicedAt, Addr.add_zero', Nat.ne_of_gt hn]
theorem By.of_blk {w : World} {k n : Nat} {xs : List Nat} (h : Blk w k (xs.map b8)) (hl : xs.length = n) : By w (.slice (some ⟨k, 0, none⟩) n n) xs := by
  subst hl
  refine By.of_cells (Nat.le_refl _) fun j hj => ?_
  rw [Nat.zero_add]
  exact h.cell j _ (by simp [List.getD_eq_getElem?_getD, hj])
end Go.Proofs.Ytejabkmhpiabnaa

/- The contracts of sealringref.xor and Sixteen; texts cut, arrays of sixteen bytes as texts. -/
namespace Go.Proofs.Ytejabkmhpiabnaa
open Go.RowKit
set_option linter.unusedSimpArgs false
attribute [local go_sem] YieldsP execOp
attribute [local simp] MP.eq_p
set_option maxRecDepth 20000 in
set_option maxHeartbeats 1000000 in
theorem rsixteen_fun (s : List Nat) (hs : ∀ x ∈ s, x < 256) (h16 : s.length = 16) (w : World) : Calls Try.prog 29 #[.string (sOf s)] w fun e w' => e = .returned (aB s) ∧ Below w.heap.size w w' := by
  obtain ⟨new, hnew⟩ : ∃ new : Nat → Nat, new = fun p => s.getD p 0 := ⟨_, rfl⟩
  have SG : Hid (∀ (j : Nat) (h : j < (sOf s).size), ((sOf s)[j]'h).toNat = s.getD j 0) := sOf_get hs
  have SZ : (sOf s).size = 16 := by rw [sOf_size]; exact h16
  have SE : Hid (A.midL (fun _ => 0) new 16 = s) := by rw [A.midL_all, hnew, A.by_self h16]; exact rfl
  have NG : Hid (∀ j, s.getD j 0 = new j) := fun j => by rw [hnew]
  obtain ⟨x0, x1, x2⟩ := al2 w #[Value.int IntKind.u8 0, Value.int IntKind.u8 0, Value.int IntKind.u8 0, Value.int IntKind.u8 0, Value.int IntKind.u8 0, Value.int IntKind.u8 0, Value.int IntKind.u8 0, Value.int IntKind.u8 0, Value.int IntKind.u8 0, Value.int IntKind.u8 0, Value.int IntKind.u8 0, Value.int IntKind.u8 0, Value.int IntKind.u8 0, Value.int IntKind.u8 0, Value.int IntKind.u8 0, Value.int IntKind.u8 0] #[Value.int IntKind.u8 0, Value.int IntKind.u8 0, Value.int IntKind.u8 0, Value.int IntKind.u8 0, Value.int IntKind.u8 0, Value.int IntKind.u8 0, Value.int IntKind.u8 0, Value.int IntKind.u8 0, Value.int IntKind.u8 0, Value.int IntKind.u8 0, Value.int IntKind.u8 0, Value.int IntKind.u8 0, Value.int IntKind.u8 0, Value.int IntKind.u8 0, Value.int IntKind.u8 0, Value.int IntKind.u8 0] 57 57
  have e0 : (A.midL (fun _ => 0) new 0).map b8 = (#[Value.int IntKind.u8 0, Value.int IntKind.u8 0, Value.int IntKind.u8 0, Value.int IntKind.u8 0, Value.int IntKind.u8 0, Value.int IntKind.u8 0, Value.int IntKind.u8 0, Value.int IntKind.u8 0, Value.int IntKind.u8 0, Value.int IntKind.u8 0, Value.int IntKind.u8 0, Value.int IntKind.u8 0, Value.int IntKind.u8 0, Value.int IntKind.u8 0, Value.int IntKind.u8 0, Value.int IntKind.u8 0] : Array Value).toList := by rw [midL_zeros]; rfl
  have X0 : Hid (Blk _ w.heap.size (zB 16)) := x0
  rw [← e0] at x1
  have X1 : Hid (Blk _ (w.heap.size + 1) ((A.midL (fun _ => 0) new 0).map b8)) := x1
  have X2 : Hid (Below w.heap.size w _) := x2
  generalize sOf s = T at *
  clear x0 x1 x2 hnew hs e0
  go_enter Try.func29, Try.ntmps29
  go_wp2_with (first | simp only [zero_a16])
  generalize World.alloc (w.alloc _) _ = w1 at *
  go_loopw [5] (fun i wr => ∃ j : Nat, j ≤ 16 ∧ i = .int .i64 (j : Int) ∧ Hid (Blk wr w.heap.size (zB 16)) ∧ Hid (Blk wr (w.heap.size + 1) ((A.midL (fun _ => 0) new j).map b8)) ∧ Hid (Below w.heap.size w wr)) (fun i _ => 16 - (intOf i).toNat)
  case atStart => exact ⟨0, by omega, rfl, X0, X1, X2⟩
  case round =>
    clear X0 X1 X2
    obtain ⟨j, hj, rfl, X0, X1, X2⟩ := hrel
    by_cases hj1 : j < 16
    · have j1 : (j : Int) < 16 := by omega
      have wj : IntKind.i64.wrap ((j : Int) + 1) = (j : Int) + 1 := by rw [IntKind.wrap_i64]; omega
      have gj : ∀ h, (T[j]'h).toNat = new j := fun h => by rw [SG.out j h, NG.out]
      have c1 := X1.out.byte j (by rw [A.midL_length]; exact hj1)
      have z1 := X1.out.fz j
      have V1 : Hid (Blk (wr.setCell ⟨w.heap.size + 1, j, none⟩ (b8 (new j))) (w.heap.size + 1) ((A.midL (fun _ => 0) new (j + 1)).map b8)) := by
        rw [← A.midL_set (fun _ => 0) new hj1]
        exact X1.out.setB _ _ (by rw [A.midL_length]; exact hj1)
      have V0 : Hid _ := X0.out.apart1 (k' := w.heap.size + 1) (o := j) (v := b8 (new j)) (by omega)
      have V2 : Hid _ := X2.out.setCell (p := ⟨w.heap.size + 1, j, none⟩) (by show w.heap.size ≤ w.heap.size + 1; omega) (b8 (new j))
      have J1 : Hid (j < 16) := hj1
      generalize new j = nj at *
      clear hj hj1 X0 X1 X2
      go_wp2_with fail
      go_roundw
      case rel => exact ⟨j + 1, J1.out, by first | rfl | go_num, V0, V1, V2⟩
      case measure => have := J1.out; simp [intOf]; omega
    · obtain rfl : j = 16 := by omega
      rw [SE.out] at X1
      have HL : Hid (s.length = 16) := h16
      clear hj hj1 h16
      have T0 : Hid (wr.there w.heap.size 0 (s.map b8).length) := X0.out.there (by rw [List.length_map, HL.out, zB_length]; omega)
      go_wp2_with (first | refine wpList_load_mid rfl 57 (.tmp 3) rfl (w.heap.size + 1) 0 rfl (s.map b8) _ X1.out.all u_a16 rfl (info_n info_a16 s HL.out) ?_ | refine wp_store_eq rfl 57 (.tmp 2) (.tmp 14) rfl w.heap.size 0 (s.map b8) rfl rfl T0.out (info_n info_a16 s HL.out) (one_b8 _) ?_)
      intro w9 hw9
      go_wp2_with fail
      refine bodyPost_ret (v := aB s) ?_ rfl ⟨rfl, ?_⟩
      · rw [hw9.out]
        exact results_cell (b := w.heap.size) rfl rfl (World.rangeAt_setCells_same _ _ _ _ T0.out) u_a16 rfl (info_n info_a16 s HL.out)
      · rw [hw9.out]
        exact below_setCells _ _ _ X2.out (Nat.le_refl _)
end Go.Proofs.Ytejabkmhpiabnaa
