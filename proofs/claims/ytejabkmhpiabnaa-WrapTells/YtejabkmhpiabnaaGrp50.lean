/- Texts that were joined: RSeal, RWrap. -/
import Derived.Test.YtejabkmhpiabnaaGrp24
import Derived.Deep.LoopGhost
import Derived.Test.YtejabkmhpiabnaaGrp28
import Derived.Test.YtejabkmhpiabnaaUpA
import Derived.Test.YtejabkmhpiabnaaGrp29
/- The contract of sealringref's Cipher.Sealed. -/
namespace Go.Proofs.Ytejabkmhpiabnaa
open Go.RowKit
set_option linter.unusedSimpArgs false
attribute [local go_sem] YieldsP execOp
attribute [local simp] MP.eq_p
theorem info_b1 : (Try.prog.info? 5).map (·.size) = some 1 := by kernel_rfl
theorem sOf_front (xs : List Nat) (n : Nat) : (sOf xs).extract 0 n = sOf (xs.take n) := by
  apply ByteArray.ext
  simp [sOf, ByteArray.data_extract]
theorem sOf_back (xs : List Nat) (n : Nat) : (sOf xs).extract n xs.length = sOf (xs.drop n) := by
  apply ByteArray.ext
  simp [sOf, ByteArray.data_extract]
  exact List.take_of_length_le (by simp)
end Go.Proofs.Ytejabkmhpiabnaa

/- The contract of sealringref's Cipher.Wrapped; rows of texts. -/
namespace Go.Proofs.Ytejabkmhpiabnaa
open Go.RowKit
set_option linter.unusedSimpArgs false
attribute [local go_sem] YieldsP execOp
attribute [local simp] MP.eq_p
/-- A text as a value; a row of texts, the first one empty. -/
abbrev tS (d : List Nat) : Value := .string (sOf d)
def rowS (rs : List (List Nat)) : List Value := tS [] :: rs.map tS
/-- The same, so far as it is in. -/
def rowT (rs : List (List Nat)) (t : Nat) : List Value := tS [] :: ((rs.take t).map tS ++ List.replicate (rs.length - t) (tS []))
theorem rowS_length (rs : List (List Nat)) : (rowS rs).length = rs.length + 1 := by simp [rowS]
theorem rowT_length (rs : List (List Nat)) {t : Nat} (h : t ≤ rs.length) : (rowT rs t).length = rs.length + 1 := by
  simp only [rowT, List.length_cons, List.length_append, List.length_map, List.length_take, List.length_replicate]
  omega
theorem rowT_zero (rs : List (List Nat)) : rowT rs 0 = List.replicate (rs.length + 1) (tS []) := by simp [rowT, List.replicate_succ]
theorem rowT_all (rs : List (List Nat)) : rowT rs rs.length = rowS rs := by simp [rowT, rowS]
theorem rowT_set (rs : List (List Nat)) {t : Nat} (h : t < rs.length) : (rowT rs t).set (t + 1) (tS (rs.getD t [])) = rowT rs (t + 1) := by
  unfold rowT
  have e : rs.getD t [] = rs[t] := by rw [List.getD_eq_getElem?_getD, List.getElem?_eq_getElem h]; rfl
  rw [List.set_cons_succ, List.set_append_right _ _ (by rw [List.length_map, List.length_take]; omega), List.length_map, List.length_take, Nat.min_eq_left (by omega), Nat.sub_self, show rs.length - t = rs.length - (t + 1) + 1 by omega, List.replicate_succ, List.set_cons_zero, List.take_succ_eq_append_getElem h, List.map_append, List.append_assoc, e]
  rfl
theorem rowS_at (rs : List (List Nat)) {i : Nat} (h : i < rs.length) : (rowS rs)[i + 1]? = some (tS (rs.getD i [])) := by
  unfold rowS
  rw [List.getElem?_cons_succ, List.getElem?_map, List.getElem?_eq_getElem h, List.getD_eq_getElem?_getD, List.getElem?_eq_getElem h]
  rfl
theorem rowS_set (rs : List (List Nat)) (i : Nat) (x : List Nat) : (rowS rs).set (i + 1) (tS x) = rowS (rs.set i x) := by
  unfold rowS
  rw [List.set_cons_succ, List.map_set]
theorem uStrs : Try.prog.underlying 62 = some (.slice 9) := by kernel_rfl
theorem iStr : (Try.prog.info? 9).map (fun i => (i.zero, i.size, i.bytes)) = some (some (tS []), 1, 16) := by kernel_rfl
theorem made_texts (n : Nat) : (madeCells (tS []).cells (n * 1)).toList = List.replicate n (tS []) := by
  refine List.ext_getElem (by simp [madeCells]) fun i h1 h2 => ?_
  simp [madeCells, Value.cells, Nat.mod_one]
theorem wp_mkS {ops : Array Oper} {rest : List Oper} {o : Oper} {a : Act} {Q : Exit → Act → World → Prop} {w : World} (hg : o.guard = none) (l c : Operand) (hop : o.op = Op.makeSlice 62 l c)
    (n : Nat) (L : Int) (hl : a.eval l = .int .i64 L) (hc : a.eval c = .int .i64 L) (hL : L = (n : Int)) (hn : n ≤ 65536)
    (h : ∀ w', Blk w' w.heap.size (List.replicate n (tS [])) → Below w.heap.size w w' → wpList Try.prog ops Q rest (a.put o.dst (.slice (some ⟨w.heap.size, 0, none⟩) n n)) w') : wpList Try.prog ops Q (o :: rest) a w := by
  obtain ⟨i0, hi, hz0, hz1, hz2⟩ := info_parts iStr
  refine wpList_make_full w hg l c 62 hop w.heap.size 9 i0 (tS []) 1 uStrs hi hz0 hz1 .i64 .i64 L L n hl hc hL hL (by rw [hz2]; omega) (by unfold maxLen; omega) (Nat.le_refl _) ?_
  intro w' r1 r2
  refine h w' ?_ (Below.grown (Below.refl _ _) r2 (Nat.le_refl _) (fun k hk => by cases hk))
  rcases r1.2 with ⟨e, _⟩ | ⟨g, cap, cur, e, _, hgg, _, _, hsz, htk⟩
  · cases e
  · cases e
    have hb := Blk.of_heap hgg
    have e2 : cur.toList = List.replicate n (tS []) := by
      rw [List.take_of_length_le (by rw [Array.length_toList, hsz]; omega)] at htk
      rw [htk, made_texts]
    rw [e2] at hb
    exact hb
theorem selem : Try.prog.underlying 62 = some (.slice (Try.prog.elem 62)) := by kernel_rfl
theorem elem_strs : Try.prog.elem 62 = 9 := by kernel_rfl
theorem size_str (w : World) : (sizeOf 9).run Try.prog w = .ok 1 w := by
  obtain ⟨i0, hi, _, hz, _⟩ := info_parts iStr
  simp [sizeOf, typeInfo, hi, hz]
/-- All but the first of a row of texts. -/
theorem wp_cutT {ops : Array Oper} {rest : List Oper} {o : Oper} {act : Act} {Q : Exit → Act → World → Prop} {w : World} (hgd : o.guard = none) (x l : Operand)
    (ho : o.op = .slice 62 x (some l) none none) (g n m : Nat) (hm : m = n + 1) (hx : act.eval x = .slice (some ⟨g, 0, none⟩) m m) (hl : act.eval l = .int .i64 1) (hn : 0 < n)
    (h : wpList Try.prog ops Q rest (act.put o.dst (.slice (some ⟨g, 1, none⟩) n n)) w) : wpList Try.prog ops Q (o :: rest) act w := by
  subst hm
  refine wpList_plain hgd fun K hK => ?_
  have e1 : (Instr.sliceAt 62 (.slice (some ⟨g, 0, none⟩) (n + 1) (n + 1)) (some (.int .i64 1)) none none).run Try.prog w = .ok (.slice (some ⟨g, 1, none⟩) n n) w := by
    rw [run_sliceAt_slice (h := selem), run_slice_l (ht := selem) (h0 := by omega) (h1 := by omega), elem_strs, size_str]
    simp [sliced, Addr.add_lit, show ¬ n = 0 by omega]
  unfold Oper.wp
  simp [execOp, ho, hx, hl, e1, Result.andThen]
  exact hK _ _ h
/-- The front of an array of sixteen bytes. -/
theorem wp_front8 {ops : Array Oper} {rest : List Oper} {o : Oper} {a : Act} {Q : Exit → Act → World → Prop} {w : World} (hgd : o.guard = none) (x y : Operand) (ho : o.op = .slice 57 x none (some y) none) (b : Nat) (hx : a.eval x = .pointer (some ⟨b, 0, none⟩)) (hy : a.eval y = .int .i64 8)
    (h : wpList Try.prog ops Q rest (a.put o.dst (.slice (some ⟨b, 0, none⟩) 8 16)) w) : wpList Try.prog ops Q (o :: rest) a w := by
  refine wpList_plain hgd fun K hK => ?_
  have e1 : (Instr.sliceAt 57 (.pointer (some ⟨b, 0, none⟩)) none (some (.int .i64 8)) none).run Try.prog w = .ok (.slice (some ⟨b, 0, none⟩) 8 16) w := by
    have ha : Try.prog.arrayLen 57 = 16 := by simp [Program.arrayLen, u_a16]
    have he : Try.prog.elem 57 = 5 := by simp [Program.elem, u_a16]
    rw [run_sliceAt_array_h w 57 ⟨b, 0, none⟩ (by rw [ha, he]; exact u_a16) .i64 8 (by omega) (by rw [ha]; omega), ha, he, gsize_u8]
    simp [slicedAt, Addr.add_zero']
  unfold Oper.wp
  simp [execOp, ho, hx, hy, e1, Result.andThen]
  exact hK _ _ h
theorem wp_back8 {ops : Array Oper} {rest : List Oper} {o : Oper} {a : Act} {Q : Exit → Act → World → Prop} {w : World} (hgd : o.guard = none) (x y : Operand) (ho : o.op = .slice 57 x (some y) none none) (b : Nat) (hx : a.eval x = .pointer (some ⟨b, 0, none⟩)) (hy : a.eval y = .int .i64 8)
    (h : wpList Try.prog ops Q rest (a.put o.dst (.slice (some ⟨b, 8, none⟩) 8 8)) w) : wpList Try.prog ops Q (o :: rest) a w := by
  refine wpList_plain hgd fun K hK => ?_
  have e1 := slice_from u_a16 gi_u8 .i64 8 (by decide) b 0 w
  have e2 : (Instr.sliceAt 57 (.pointer (some ⟨b, 0, none⟩)) (some (.int .i64 8)) none none).run Try.prog w = .ok (.slice (some ⟨b, 8, none⟩) 8 8) w := e1
  unfold Oper.wp
  simp [execOp, ho, hx, hy, e2, Result.andThen]
  exact hK _ _ h
theorem wp_all8 {ops : Array Oper} {rest : List Oper} {o : Oper} {a : Act} {Q : Exit → Act → World → Prop} {w : World} (hgd : o.guard = none) (x : Operand) (ho : o.op = .slice 50 x none none none) (b : Nat) (hx : a.eval x = .pointer (some ⟨b, 0, none⟩))
    (h : wpList Try.prog ops Q rest (a.put o.dst (.slice (some ⟨b, 0, none⟩) 8 8)) w) : wpList Try.prog ops Q (o :: rest) a w := by
  refine wpList_plain hgd fun K hK => ?_
  have e1 := slice_all u_a8 gi_u8 (by decide) b 0 w
  unfold Oper.wp
  simp [execOp, ho, hx, e1, Result.andThen]
  exact hK _ _ h
theorem quiet_all8 {ops : Array Oper} {C : World → Prop} {Q : Act → Prop} {o : Oper} {rest : List Oper} {a : Act} (hw : Region.wanted o (yielded ops a.tmps) = true) (x : Operand) (ho : o.op = .slice 50 x none none none) (b : Nat) (hx : a.eval x = .pointer (some ⟨b, 0, none⟩))
    (h : wpQuiet Try.prog ops C Q rest (a.put o.dst (.slice (some ⟨b, 0, none⟩) 8 8))) : wpQuiet Try.prog ops C Q (o :: rest) a := by
  refine BigFrame.wpQuiet_want hw fun K hK => ⟨.slice (some ⟨b, 0, none⟩) 8 8, fun w _ => ?_, hK _ h⟩
  have e1 := slice_all u_a8 gi_u8 (by decide) b 0 w
  unfold Oper.quietAt
  have e : (execOp a.eval o).run Try.prog w = .ok (.value (.slice (some ⟨b, 0, none⟩) 8 8)) w := by
    unfold execOp
    simp [ho, hx, e1]
  rw [e]
  exact ⟨rfl, rfl⟩
theorem quiet_convT {ops : Array Oper} {rest : List Oper} {o : Oper} {a : Act} {C : World → Prop} {Q : Act → Prop} (hgd : Region.wanted o (yielded ops a.tmps) = true) (x : Operand) (ho : o.op = .convert 22 9 x) (u : Value) (xs : List Nat) (t : ByteArray) (ht : sOf xs = t) (hx : a.eval x = u) (hy : ∀ w, C w → By w u xs) (h : wpQuiet Try.prog ops C Q rest (a.put o.dst (.string t))) : wpQuiet Try.prog ops C Q (o :: rest) a := by
  subst ht
  refine BigFrame.wpQuiet_want hgd fun K hK => ⟨.string (sOf xs), fun w hw => ?_, hK _ h⟩
  have e : (execOp a.eval o).run Try.prog w = .ok (.value (.string (sOf xs))) w := by
    have e1 := bytes_conv (hy w hw)
    unfold execOp
    simp [ho, hx, e1]
  unfold Oper.quietAt
  rw [e]
  exact ⟨rfl, rfl⟩
theorem By.front8 {w : World} {k : Nat} {b : List Nat} (h : Blk w k (b.map b8)) (hl : b.length = 16) : By w (.slice (some ⟨k, 0, none⟩) 8 16) (b.take 8) := by
  have e : (b.take 8).length = 8 := by rw [List.length_take, hl]; rfl
  have := By.of_cells (w := w) (b := k) (o := 0) (c := 16) (xs := b.take 8) (by rw [e]; decide) fun j hj => by
    rw [e] at hj
    rw [Nat.zero_add, h.byte j (by omega)]
    congr 2
    simp [List.getD_eq_getElem?_getD, List.getElem?_take, hj]
  rwa [e] at this
theorem By.back8 {w : World} {k : Nat} {b : List Nat} (h : Blk w k (b.map b8)) (hl : b.length = 16) : By w (.slice (some ⟨k, 8, none⟩) 8 8) (b.drop 8) := by
  have e : (b.drop 8).length = 8 := by rw [List.length_drop, hl]
  have := By.of_cells (w := w) (b := k) (o := 8) (c := 8) (xs := b.drop 8) (by rw [e]; decide) fun j hj => by
    rw [e] at hj
    rw [h.byte (8 + j) (by omega)]
    congr 2
    simp [List.getD_eq_getElem?_getD, List.getElem?_drop]
  rwa [e] at this
theorem A.okE.front {n : Nat} {rs : List (List Nat)} (h : A.okE n rs) {q : Nat} (hq : q ≤ n) : A.okE q (rs.take q) := ⟨by rw [List.length_take, h.1]; omega, fun d hd => h.2 d (List.mem_of_mem_take hd)⟩
theorem A.take_flat {rs : List (List Nat)} {q : Nat} (h : q < rs.length) : (rs.take (q + 1)).flatten = (rs.take q).flatten ++ rs.getD q [] := by
  rw [List.take_succ_eq_append_getElem h, List.flatten_append, List.getD_eq_getElem?_getD, List.getElem?_eq_getElem h]
  simp
theorem sOf_mid (xs : List Nat) (i n : Nat) : (sOf xs).extract i (i + n) = sOf ((xs.drop i).take n) := by
  apply ByteArray.ext
  simp [sOf, ByteArray.data_extract]
theorem built_a6 : Try.prog.built 50 [(0, b8 166), (1, b8 166), (2, b8 166), (3, b8 166), (4, b8 166), (5, b8 166), (6, b8 166), (7, b8 166)] = some (A.a6.map b8).toArray := by kernel_rfl
theorem wp_build_a6 {ops : Array Oper} {rest : List Oper} {o : Oper} {a : Act} {Q : Exit → Act → World → Prop} {w : World} (hgd : o.guard = none) (ho : o.op = .build 50 #[(0, .const (b8 166)), (1, .const (b8 166)), (2, .const (b8 166)), (3, .const (b8 166)), (4, .const (b8 166)), (5, .const (b8 166)), (6, .const (b8 166)), (7, .const (b8 166))])
    (h : wpList Try.prog ops Q rest (a.put o.dst (aB A.a6)) w) : wpList Try.prog ops Q (o :: rest) a w := by
  refine wpList_plain hgd fun K hK => ?_
  have e1 : (Instr.build 50 ((#[(0, .const (b8 166)), (1, .const (b8 166)), (2, .const (b8 166)), (3, .const (b8 166)), (4, .const (b8 166)), (5, .const (b8 166)), (6, .const (b8 166)), (7, .const (b8 166))] : Array (Nat × Operand)).map fun x => (x.fst, a.eval x.snd))).run Try.prog w = .ok (aB A.a6) w := run_build w 50 _ _ (by simpa [Act.eval] using built_a6)
  unfold Oper.wp
  simp only [execOp, ho, Sem.run_bind, e1, Result.andThen_ok, Sem.run_pure]
  exact hK _ _ h
end Go.Proofs.Ytejabkmhpiabnaa
