import Derived.Test.YtfanndkhajokcaaDoorGrp3
import Derived.Test.YtfanndkhajokcaaDoorGrp4
import Derived.Test.YtfanndkhajokcaaDoorGrp1
/- States of a digest: what a state of a text is; how a slice is cut, and how bytes are copied into a row. -/
namespace Go.Proofs.YtfanndkhajokcaaDoor
open Go.RowKit
set_option linter.unusedSimpArgs false
theorem By.len {w : World} {v : Value} {xs : List Nat} (h : By w v xs) : ∃ a c, v = .slice a xs.length c := by
  obtain ⟨a, c, e, _⟩ := h
  exact ⟨a, c, e⟩
theorem slice_elem : Tryd.prog.underlying 22 = some (.slice (Tryd.prog.elem 22)) := by kernel_rfl
theorem elem_bytes : Tryd.prog.elem 22 = 5 := by kernel_rfl
theorem size_u8 (w : World) : (sizeOf 5).run Tryd.prog w = .ok 1 w := by
  cases hq : Tryd.prog.info? 5 with
  | none => have := info_u8; simp [hq] at this
  | some i =>
    have hi : i.size = 1 := by simpa [hq] using info_u8
    simp [sizeOf, typeInfo, hq, hi]
/-- What is left behind the first n. -/
theorem By.cut {w : World} {a : Option Addr} {c n : Nat} {xs : List Nat} (h : By w (.slice a xs.length c) xs) (hn : n ≤ xs.length) : By w (sliced a n xs.length c 1) (xs.drop n) := by
  obtain ⟨a', c', e, h1, h2, h3⟩ := h
  cases e
  have hl : (xs.drop n).length = xs.length - n := List.length_drop
  refine ⟨if c = n then a else a.map (·.add (n * 1)), c - n, by rw [hl, sliced], by omega, fun h => ?_, fun hp => ?_⟩
  · by_cases hc : c = n
    · omega
    · rw [if_neg hc] at h
      have := h2 (by simpa using h)
      omega
  · obtain ⟨b, o, e, hc⟩ := h3 (by omega)
    subst e
    refine ⟨b, o + n, ?_, fun j hj => ?_⟩
    · rw [if_neg (by omega), Nat.mul_one]
      simp [Addr.add_lit]
    · have := hc (n + j) (by omega)
      rw [Nat.add_assoc, this]
      simp [List.getD_eq_getElem?_getD]
theorem By.front {w : World} {a : Option Addr} {c n : Nat} {xs : List Nat} (h : By w (.slice a xs.length c) xs) (hn : n ≤ xs.length) : By w (sliced a 0 n c 1) (xs.take n) := by
  obtain ⟨a', c', e, h1, h2, h3⟩ := h
  cases e
  have hl : (xs.take n).length = n := by rw [List.length_take]; omega
  refine ⟨a, c, ?_, by omega, h2, fun hp => ?_⟩
  · rw [hl, sliced]
    cases a with
    | none => simp
    | some a => simp [Addr.add_zero']
  · obtain ⟨b, o, e, hc⟩ := h3 (by omega)
    refine ⟨b, o, e, fun j hj => ?_⟩
    rw [hc j (by omega)]
    congr 2
    simp [List.getD_eq_getElem?_getD, List.getElem?_take, show j < n by omega]
theorem wp_cutB {ops : Array Oper} {rest : List Oper} {o : Oper} {act : Act} {Q : Exit → Act → World → Prop} {w : World} (hgd : o.guard = none) (x l : Operand)
    (ho : o.op = .slice 22 x (some l) none none) (a : Option Addr) (m c n : Nat) (k : IntKind) (z : Int) (xs : List Nat) (hx : act.eval x = .slice a m c) (hm : m = xs.length) (hl : act.eval l = .int k z) (hz : z = (n : Int)) (hn : n ≤ xs.length) (W0 : World) (hb : By W0 (.slice a m c) xs)
    (h : ∀ v', By W0 v' (xs.drop n) → wpList Tryd.prog ops Q rest (act.put o.dst v') w) : wpList Tryd.prog ops Q (o :: rest) act w := by
  subst hm hz
  refine wpList_plain hgd fun K hK2 => ?_
  have e : (Instr.sliceAt 22 (.slice a xs.length c) (some (.int k (n : Int))) none none).run Tryd.prog w = .ok (sliced a n xs.length c 1) w := by
    rw [run_sliceAt_slice (h := slice_elem), run_slice_l (ht := slice_elem) (h0 := by omega) (h1 := by omega), elem_bytes, size_u8]
    simp
  unfold Oper.wp
  simp [execOp, ho, hx, hl, e, Result.andThen]
  exact hK2 _ _ (h _ (hb.cut hn))
theorem wp_frontB {ops : Array Oper} {rest : List Oper} {o : Oper} {act : Act} {Q : Exit → Act → World → Prop} {w : World} (hgd : o.guard = none) (x l : Operand)
    (ho : o.op = .slice 22 x none (some l) none) (a : Option Addr) (m c n : Nat) (k : IntKind) (z : Int) (xs : List Nat) (hx : act.eval x = .slice a m c) (hm : m = xs.length) (hl : act.eval l = .int k z) (hz : z = (n : Int)) (hn : n ≤ xs.length) (W0 : World) (hb : By W0 (.slice a m c) xs)
    (h : ∀ v', By W0 v' (xs.take n) → wpList Tryd.prog ops Q rest (act.put o.dst v') w) : wpList Tryd.prog ops Q (o :: rest) act w := by
  subst hm hz
  refine wpList_plain hgd fun K hK2 => ?_
  have hc : xs.length ≤ c := by obtain ⟨_, _, e, h1, _⟩ := hb; cases e; exact h1
  have e : (Instr.sliceAt 22 (.slice a xs.length c) none (some (.int k (n : Int))) none).run Tryd.prog w = .ok (sliced a 0 n c 1) w := by
    rw [run_sliceAt_slice (h := slice_elem), run_slice_h (ht := slice_elem) (h0 := by omega) (h2 := by omega), elem_bytes, size_u8]
    simp
  unfold Oper.wp
  simp [execOp, ho, hx, hl, e, Result.andThen]
  exact hK2 _ _ (h _ (hb.front hn))
/-- copy of bytes into a range that may be written. -/
theorem wp_copyB {ops : Array Oper} {rest : List Oper} {o : Oper} {act : Act} {Q : Exit → Act → World → Prop} {w : World} (hgd : o.guard = none) (d s : Operand)
    (ho : o.op = .call { callee := .builtin .copy, args := #[d, s], argTypes := #[22, 22] }) (b f dl dc : Nat) (u : Value) (xs : List Nat) (hd : act.eval d = .slice (some ⟨b, f, none⟩) dl dc) (hs : act.eval s = u) (hb : By w u xs) (hp : 0 < xs.length)
    (ht : w.there b f (min xs.length dl))
    (h : ∀ w2, Hid (w2 = w.setCells b f ((xs.take dl).map b8)) → wpList Tryd.prog ops Q rest (act.put o.dst (.int .i64 ((min xs.length dl : Nat) : Int))) w2) : wpList Tryd.prog ops Q (o :: rest) act w := by
  obtain ⟨a, c, rfl, h1, h2, h3⟩ := hb
  obtain ⟨g, q, rfl, hc⟩ := h3 hp
  refine wpList_plain hgd fun K hK => ?_
  have hlen : ((xs.take dl).map b8).length = min xs.length dl := by simp [Nat.min_comm]
  have hrun := run_copy_cells (P := Tryd.prog) w 22 22 o.type 5 b f dl dc ⟨g, q, none⟩ xs.length c ((xs.take dl).map b8) Tryd.uBytes info_u8 hlen
    (fun j v hj => by
      rw [List.getElem?_map, List.getElem?_take] at hj
      split at hj
      · rcases Nat.lt_or_ge j xs.length with h | h
        · rw [Addr.add_lit, hc j h]
          simp [List.getD_eq_getElem?_getD, h] at hj ⊢
          exact hj
        · simp [List.getElem?_eq_none h] at hj
      · simp at hj)
    (fun j hj => (ht j (by omega)).1) (fun j hj => (ht j (by omega)).2) (one_b8 _)
  rw [hlen] at hrun
  unfold Oper.wp
  simp [execOp, ho, resolve, invoke, builtin, hd, hs, hrun, Result.andThen]
  exact hK _ _ (h _ (by rw [List.map_take]; exact rfl))
/-- The cells of a state. -/
def cS (H : R8) (R : List Nat) (c : Nat) : List Value := H.list.map uw ++ (R.map b8 ++ [.int .u64 (c : Int)])
def vS (H : R8) (R : List Nat) (c : Nat) : Value := .agg (cS H R c).toArray
/-- The bytes behind the last whole block, and then 0. -/
def restS (p : List Nat) : List Nat := p.drop (64 * (p.length / 64)) ++ List.replicate (64 - p.length % 64) 0
def wordsS (H : R8) (p : List Nat) : R8 := absN H (p.length / 64) p
def cntS (n : Nat) (p : List Nat) : Nat := (n + p.length) % 18446744073709551616
/-- The state of a text p behind n bytes whose words are H. -/
def stV (H : R8) (n : Nat) (p : List Nat) : Value := vS (wordsS H p) (restS p) (cntS n p)
theorem restS_length (p : List Nat) : (restS p).length = 64 := by
  unfold restS
  rw [List.length_append, List.length_drop, List.length_replicate]
  omega
theorem cS_length (H : R8) (R : List Nat) (c : Nat) (h : R.length = 64) : (cS H R c).length = 73 := by
  simp [cS, R8.list, h]
theorem cnt_mod (n : Nat) (p : List Nat) (h : n % 64 = 0) : cntS n p % 64 = p.length % 64 := by unfold cntS; omega
theorem restS_low {p : List Nat} (h : ∀ x ∈ p, x < 256) : ∀ x ∈ restS p, x < 256 := by
  intro x hx
  rcases List.mem_append.1 hx with h1 | h1
  · exact h x (List.mem_of_mem_drop h1)
  · rw [(List.mem_replicate.1 h1).2]; decide
/-- The bytes behind the last whole block, and how many bytes 0 stand behind them. -/
theorem restS_eq (p : List Nat) : ∃ t, t.length = p.length % 64 ∧ t = p.drop (64 * (p.length / 64)) ∧ restS p = t ++ List.replicate (64 - p.length % 64) 0 :=
  ⟨_, by rw [List.length_drop]; omega, rfl, rfl⟩
/-- x laid into the rest behind p's own bytes. -/
def laidS (p x : List Nat) : List Nat := p.drop (64 * (p.length / 64)) ++ (x ++ List.replicate (64 - p.length % 64 - x.length) 0)
theorem laidS_length (p x : List Nat) (h : p.length % 64 + x.length ≤ 64) : (laidS p x).length = 64 := by
  unfold laidS
  rw [List.length_append, List.length_append, List.length_drop, List.length_replicate]
  omega
theorem laidS_low {p x : List Nat} (h : ∀ z ∈ p, z < 256) (hx : ∀ z ∈ x, z < 256) : ∀ z ∈ laidS p x, z < 256 := by
  intro z hz
  rcases List.mem_append.1 hz with h1 | h1
  · exact h z (List.mem_of_mem_drop h1)
  · rcases List.mem_append.1 h1 with h2 | h2
    · exact hx z h2
    · rw [(List.mem_replicate.1 h2).2]; decide
/-- Not yet a whole block. -/
theorem on_rest (p x : List Nat) (h : p.length % 64 + x.length < 64) : restS (p ++ x) = laidS p x := by
  unfold restS laidS
  rw [List.length_append, show (p.length + x.length) / 64 = p.length / 64 by omega, List.drop_append_of_le_length (by omega), show 64 - (p.length + x.length) % 64 = 64 - p.length % 64 - x.length by omega, List.append_assoc]
theorem on_words (H : R8) (p x : List Nat) (h : p.length % 64 + x.length < 64) : wordsS H (p ++ x) = wordsS H p := by
  unfold wordsS
  rw [List.length_append, show (p.length + x.length) / 64 = p.length / 64 by omega, absN_front _ _ _ _ (by omega)]
/-- A whole block. -/
theorem full_rest (p x : List Nat) (h : p.length % 64 + x.length = 64) : restS (p ++ x) = List.replicate 64 0 := by
  unfold restS
  rw [List.drop_eq_nil_of_le (by rw [List.length_append]; omega), List.length_append, show (p.length + x.length) % 64 = 0 by omega]
  rfl
theorem full_words (H : R8) (p x : List Nat) (h : p.length % 64 + x.length = 64) : wordsS H (p ++ x) = mixS (wordsS H p) (laidS p x) := by
  unfold wordsS laidS
  rw [List.length_append, show (p.length + x.length) / 64 = p.length / 64 + 1 by omega, absN_add, absN_front _ _ _ _ (by omega), List.drop_append_of_le_length (by omega), show 64 - p.length % 64 - x.length = 0 by omega]
  simp only [absN, List.replicate_zero, List.append_nil]
  rw [List.take_of_length_le (by rw [List.length_append, List.length_drop]; omega)]
theorem cnt_on (n : Nat) (p x : List Nat) : (cntS n p + x.length) % 18446744073709551616 = cntS n (p ++ x) := by
  unfold cntS
  rw [List.length_append]
  omega
theorem map_rep (n : Nat) : (List.replicate n 0).map b8 = List.replicate n (b8 0) := by simp
theorem Blk.lay {w : World} {k : Nat} {W : R8} {p x : List Nat} {c : Nat} (h : Blk w k (cS W (restS p) c)) (hx : p.length % 64 + x.length ≤ 64) {o : Nat} (ho : o = 8 + p.length % 64) : Blk (w.setCells k o (x.map b8)) k (cS W (laidS p x) c) := by
  obtain ⟨t, ht, e1, e2⟩ := restS_eq p
  have ea : cS W (restS p) c = (W.list.map uw ++ t.map b8) ++ ((List.replicate x.length 0).map b8 ++ ((List.replicate (64 - p.length % 64 - x.length) 0).map b8 ++ [.int .u64 (c : Int)])) := by
    have er : List.replicate (64 - p.length % 64) 0 = List.replicate x.length 0 ++ List.replicate (64 - p.length % 64 - x.length) 0 := by
      rw [List.replicate_append_replicate]
      congr 1
      omega
    rw [cS, e2, er, List.map_append, List.map_append]
    simp only [List.append_assoc]
  have eb : cS W (laidS p x) c = (W.list.map uw ++ t.map b8) ++ (x.map b8 ++ ((List.replicate (64 - p.length % 64 - x.length) 0).map b8 ++ [.int .u64 (c : Int)])) := by
    rw [cS, laidS, ← e1, List.map_append, List.map_append]
    simp only [List.append_assoc]
  rw [ea] at h
  rw [eb]
  exact h.store (by rw [ho]; simp [R8.list, ht]; omega) (by simp)
theorem Blk.cnt {w : World} {k : Nat} {W : R8} {R : List Nat} {c : Nat} (h : Blk w k (cS W R c)) (hR : R.length = 64) (c' : Nat) {z : Int} (hz : z = (c' : Int)) : Blk (w.setCell ⟨k, 72, none⟩ (.int .u64 z)) k (cS W R c') := by
  subst hz
  have h' : Blk w k ((W.list.map uw ++ R.map b8) ++ ([.int .u64 (c : Int)] ++ [])) := by
    have e : (W.list.map uw ++ R.map b8) ++ ([.int .u64 (c : Int)] ++ []) = cS W R c := by simp [cS]
    rw [e]; exact h
  have := h'.store (o := 72) (b' := [.int .u64 (c' : Int)]) (by simp [R8.list, hR]) rfl
  have e : (W.list.map uw ++ R.map b8) ++ ([.int .u64 (c' : Int)] ++ []) = cS W R c' := by simp [cS]
  rw [e] at this
  exact this
theorem Blk.cntAt {w : World} {k : Nat} {W : R8} {R : List Nat} {c : Nat} (h : Blk w k (cS W R c)) (hR : R.length = 64) : w.cell? ⟨k, 72, none⟩ = some (.int .u64 (c : Int)) :=
  h.cell 72 _ (by rw [cS, ← List.append_assoc, List.getElem?_append_right (by simp [R8.list, hR])]; simp [R8.list, hR])
theorem Blk.words {w : World} {k : Nat} {W : R8} {R : List Nat} {c : Nat} (h : Blk w k (cS W R c)) : w.rangeAt k 0 (W.list.map uw) :=
  Blk.range (a := []) (b := W.list.map uw) (c := R.map b8 ++ [.int .u64 (c : Int)]) h rfl
theorem Blk.rest {w : World} {k : Nat} {W : R8} {R : List Nat} {c : Nat} (h : Blk w k (cS W R c)) : w.rangeAt k 8 (R.map b8) :=
  Blk.range (a := W.list.map uw) (b := R.map b8) (c := [.int .u64 (c : Int)]) h (by simp [R8.list])
theorem Blk.setWords {w : World} {k : Nat} {W : R8} {R : List Nat} {c : Nat} (h : Blk w k (cS W R c)) (W' : R8) : Blk (w.setCells k 0 (W'.list.map uw)) k (cS W' R c) :=
  Blk.store (a := []) (b := W.list.map uw) (c := R.map b8 ++ [.int .u64 (c : Int)]) h rfl (by simp [R8.list])
theorem Blk.setRest {w : World} {k : Nat} {W : R8} {R : List Nat} {c : Nat} (h : Blk w k (cS W R c)) (R' : List Nat) (hl : R'.length = R.length) : Blk (w.setCells k 8 (R'.map b8)) k (cS W R' c) :=
  Blk.store (a := W.list.map uw) (b := R.map b8) (c := [.int .u64 (c : Int)]) h (by simp [R8.list]) (by simpa using hl)
theorem one_cS (W : R8) (R : List Nat) (c : Nat) : ∀ v ∈ cS W R c, v.oneCell' = true := by
  intro v hv
  rcases List.mem_append.1 hv with h | h
  · exact one_uw _ U v h
  · rcases List.mem_append.1 h with h | h
    · exact one_b8 _ v h
    · rw [List.mem_singleton.1 h]; rfl
def R0 : R8 := ⟨0, 0, 0, 0, 0, 0, 0, 0⟩
/-- The cells of a state of nothing but 0. -/
def zS : List Value := cS R0 (List.replicate 64 0) 0
theorem zS_length : zS.length = 73 := cS_length _ _ _ (by simp)
theorem info_zero : (Tryd.prog.info? 68).map (·.zero) = some (some (.agg zS.toArray)) := by kernel_rfl
theorem zero_state (w : World) : (zeroValue 68).run Tryd.prog w = .ok (.agg zS.toArray) w := by
  have := info_zero
  cases h : Tryd.prog.info? 68 with
  | none => simp [h] at this
  | some d =>
    have hz : d.zero = some (.agg zS.toArray) := by simpa [h] using this
    simp [zeroValue, typeInfo, h, hz]
theorem info_state : (Tryd.prog.info? 68).map (·.size) = some 73 := by kernel_rfl
theorem info_w8 : (Tryd.prog.info? 65).map (·.size) = some 8 := by kernel_rfl
theorem u_w8 : Tryd.prog.underlying 65 = some (.array 8 64) := by kernel_rfl
theorem u_state : (Tryd.prog.underlying 68).map TypeDesc.isRow = some true := by kernel_rfl
theorem u_state' : ∃ d, Tryd.prog.underlying 68 = some d ∧ d.isRow = true := by
  have := u_state
  cases h : Tryd.prog.underlying 68 with
  | none => simp [h] at this
  | some d => exact ⟨d, rfl, by simpa [h] using this⟩
theorem built_blk : Tryd.prog.built 66 [] = some ((List.replicate 64 0).map b8).toArray := by kernel_rfl
/-- A block of bytes 0 that is built. -/
theorem wp_buildz {ops : Array Oper} {rest : List Oper} {o : Oper} {act : Act} {Q : Exit → Act → World → Prop} {w : World} (hgd : o.guard = none) (ho : o.op = .build 66 #[]) (zz : List Nat) (hz : Hid (zz = List.replicate 64 0))
    (h : wpList Tryd.prog ops Q rest (act.put o.dst (vB zz)) w) : wpList Tryd.prog ops Q (o :: rest) act w := by
  have hz := hz.out
  subst hz
  refine wpList_plain hgd fun K hK => ?_
  have e : (Instr.build 66 ((#[] : Array (Nat × Operand)).map fun x => (x.fst, act.eval x.snd))).run Tryd.prog w = .ok (vB (List.replicate 64 0)) w := run_build (P := Tryd.prog) w 66 _ _ (by simpa using built_blk)
  unfold Oper.wp
  simp only [execOp, ho, Sem.run_bind, e, Result.andThen_ok, Sem.run_pure]
  exact hK _ _ h
end Go.Proofs.YtfanndkhajokcaaDoor

/- The bytes of a text. -/
namespace Go.Proofs.YtfanndkhajokcaaDoor
theorem sOf_get {b : List Nat} (low : ∀ x ∈ b, x < 256) (j : Nat) (h : j < (sOf b).size) : ((sOf b)[j]'h).toNat = b.getD j 0 := by
  have hj : j < b.length := by rw [sOf_size] at h; exact h
  have e : (sOf b)[j]'h = UInt8.ofNat b[j] := by
    simp [sOf, ByteArray.getElem_eq_getElem_data]
  rw [e, UInt8.toNat_ofNat', Nat.mod_eq_of_lt (low _ (List.getElem_mem hj)), List.getD_eq_getElem?_getD, List.getElem?_eq_getElem hj]
  rfl
/-- Every text is one of bytes. -/
theorem sOf_all (s : ByteArray) : ∃ cs, (∀ x ∈ cs, x < 256) ∧ s = sOf cs := by
  refine ⟨s.data.toList.map UInt8.toNat, fun x hx => ?_, ?_⟩
  · simp only [List.mem_map] at hx
    obtain ⟨y, _, rfl⟩ := hx
    exact y.toNat_lt
  · apply ByteArray.ext
    simp [sOf, Function.comp_def]
end Go.Proofs.YtfanndkhajokcaaDoor

/- Slices of words of 32 bits: what one holds; rows of such that a call made. -/
namespace Go.Proofs.YtfanndkhajokcaaDoor
open Go.RowKit
set_option linter.unusedSimpArgs false
theorem uU32s : Tryd.prog.underlying 98 = some (.slice 64) := by kernel_rfl
theorem iU32 : (Tryd.prog.info? 64).map (fun i => (i.zero, i.size, i.bytes)) = some (some (.int .u32 0), 1, 4) := by kernel_rfl
/-- The slice v holds the words ws. -/
def Wy (w : World) (v : Value) (ws : List (BitVec 32)) : Prop :=
  ∃ a c, v = .slice a ws.length c ∧ (0 < ws.length → ∃ b o, a = some ⟨b, o, none⟩ ∧ ∀ j, j < ws.length → w.cell? ⟨b, o + j, none⟩ = some (uw (ws.getD j 0)))
theorem Wy.up {W w1 : World} {v : Value} {xs : List (BitVec 32)} {B : Nat} (h : Wy W v xs) (hb : Below B W w1) (hB : W.heap.size ≤ B) : Wy w1 v xs := by
  obtain ⟨a, c, e, h3⟩ := h
  refine ⟨a, c, e, fun hp => ?_⟩
  obtain ⟨b, o, e2, hc⟩ := h3 hp
  exact ⟨b, o, e2, fun j hj => (hb.cell (p := ⟨b, o + j, none⟩) (Nat.lt_of_lt_of_le (lt_of_cellB (hc j hj)) hB)).trans (hc j hj)⟩
/-- Eight words in a slice: where they lie. -/
theorem Wy.eight {w : World} {v : Value} {H : R8} (h : Wy w v H.list) : ∃ b o c, v = .slice (some ⟨b, o, none⟩) 8 c ∧ w.cell? ⟨b, o, none⟩ = some (uw H.a) ∧ w.cell? ⟨b, o + 1, none⟩ = some (uw H.b) ∧ w.cell? ⟨b, o + 2, none⟩ = some (uw H.c) ∧ w.cell? ⟨b, o + 3, none⟩ = some (uw H.d) ∧ w.cell? ⟨b, o + 4, none⟩ = some (uw H.e) ∧ w.cell? ⟨b, o + 5, none⟩ = some (uw H.f) ∧ w.cell? ⟨b, o + 6, none⟩ = some (uw H.g) ∧ w.cell? ⟨b, o + 7, none⟩ = some (uw H.h) := by
  obtain ⟨a, c, rfl, h3⟩ := h
  obtain ⟨b, o, rfl, hc⟩ := h3 (by simp [R8.list])
  exact ⟨b, o, c, rfl, hc 0 (by simp [R8.list]), hc 1 (by simp [R8.list]), hc 2 (by simp [R8.list]), hc 3 (by simp [R8.list]), hc 4 (by simp [R8.list]), hc 5 (by simp [R8.list]), hc 6 (by simp [R8.list]), hc 7 (by simp [R8.list])⟩
theorem Wy.of_blk {w : World} {k : Nat} {ws : List (BitVec 32)} (h : Blk w k (ws.map uw)) {c : Nat} : Wy w (.slice (some ⟨k, 0, none⟩) ws.length c) ws :=
  ⟨_, c, rfl, fun _ => ⟨k, 0, rfl, fun j hj => h.cell _ _ (by simp [List.getD_eq_getElem?_getD, hj])⟩⟩
/-- The slice v is a row of words that the call made. -/
def Ww (w : World) (B : Nat) (v : Value) (ws : List (BitVec 32)) : Prop := w.ownsRow B 64 1 v ws.length (ws.map uw)
theorem Ww.nil (w : World) (B : Nat) : Ww w B (.slice none 0 0) [] := World.ownsRow_nil _ _ _ _
theorem Ww.up {W w1 : World} {B : Nat} {v : Value} {xs : List (BitVec 32)} (h : Ww W B v xs) (hb : Below W.heap.size W w1) : Ww w1 B v xs := by
  refine ⟨h.1, ?_⟩
  rcases h.2 with h' | ⟨g, cap, cur, e, hB, hg, rest⟩
  · exact .inl h'
  · exact .inr ⟨g, cap, cur, e, hB, (hb.block g (Array.getElem?_eq_some_iff.1 hg).1).trans hg, rest⟩
theorem Ww.form {w : World} {B : Nat} {v : Value} {xs : List (BitVec 32)} (h : Ww w B v xs) (hp : 0 < xs.length) : ∃ g c, v = .slice (some ⟨g, 0, none⟩) xs.length c ∧ B ≤ g ∧ ∀ j, j < xs.length → w.cell? ⟨g, j, none⟩ = some (uw (xs.getD j 0)) := by
  rcases h.2 with ⟨e, e2⟩ | ⟨g, cap, cur, e, hB, hg, hn, rest⟩
  · omega
  · refine ⟨g, cap, e, hB, fun j hj => ?_⟩
    have h2 : w.ownsRow B 64 1 (.slice (some ⟨g, 0, none⟩) xs.length cap) xs.length (xs.map uw) := by rw [← e]; exact h
    rw [h2.cellAt j (by omega)]
    simp [List.getD_eq_getElem?_getD, hj]
theorem Ww.wy {w : World} {B : Nat} {v : Value} {xs : List (BitVec 32)} (h : Ww w B v xs) : Wy w v xs := by
  rcases Nat.eq_zero_or_pos xs.length with h0 | h0
  · rcases h.2 with ⟨e, e2⟩ | ⟨g, cap, cur, e, _⟩
    · exact ⟨none, 0, by rw [e, h0], fun hp => by omega⟩
    · exact ⟨_, cap, e, fun hp => by omega⟩
  · obtain ⟨g, c, e, _, hc⟩ := h.form h0
    exact ⟨_, c, e, fun _ => ⟨g, 0, rfl, fun j hj => by rw [Nat.zero_add]; exact hc j hj⟩⟩
/-- A slice that has room and holds nothing yet. -/
theorem wp_mkW {ops : Array Oper} {rest : List Oper} {o : Oper} {a : Act} {Q : Exit → Act → World → Prop} {w : World} (hg : o.guard = none) (l c : Operand) (hop : o.op = Op.makeSlice 98 l c)
    (hl : a.eval l = .int .i64 0) (hc : a.eval c = .int .i64 64)
    (h : ∀ v w', Ww w' w.heap.size v [] → Below w.heap.size w w' → wpList Tryd.prog ops Q rest (a.put o.dst v) w') : wpList Tryd.prog ops Q (o :: rest) a w := by
  obtain ⟨i0, hi, hz0, hz1, hz2⟩ := info_parts iU32
  obtain ⟨w', e, r1, r2⟩ := run_make_own (P := Tryd.prog) w w.heap.size 98 64 i0 (.int .u32 0) 1 uU32s hi hz0 hz1 .i64 .i64 64 (by rw [hz2]; decide) (by unfold maxLen; decide) (Nat.le_refl _)
  refine wpList_plain hg fun K hK => ?_
  have e' : (Instr.makeSlice 98 (.int .i64 0) (.int .i64 64)).run Tryd.prog w = .ok (.slice (some ⟨w.heap.size, 0, none⟩) 0 64) w' := e
  unfold Oper.wp
  simp only [execOp, hop, hl, hc, Sem.run_bind, e', Result.andThen_ok, Sem.run_pure]
  exact hK _ _ (h _ _ r1 (Below.grown (Below.refl _ _) r2 (Nat.le_refl _) (fun k hk => by cases hk)))
/-- append of one word, built on the spot. -/
theorem wp_appW {ops : Array Oper} {rest : List Oper} {o : Oper} {a : Act} {Q : Exit → Act → World → Prop} {w : World} (hgd : o.guard = none) (s x : Operand)
    (ho : o.op = .call { callee := .builtin .append, args := #[s, x], argTypes := #[98, 98] })
    (B : Nat) (v : Value) (xs : List (BitVec 32)) (W0 : World) (k : Nat) (y : BitVec 32) (hs : a.eval s = v) (hown : Ww W0 B v xs) (hup : Below W0.heap.size W0 w) (hx : a.eval x = .slice (some ⟨k, 0, none⟩) 1 1) (hy : w.cell? ⟨k, 0, none⟩ = some (uw y))
    (hl : xs.length ≤ 64) (hB : B ≤ W0.heap.size) (h : ∀ v' w', Ww w' B v' (xs ++ [y]) → Below B W0 w' → wpList Tryd.prog ops Q rest (a.put o.dst v') w') : wpList Tryd.prog ops Q (o :: rest) a w := by
  obtain ⟨i0, hi, hz0, hz1, hz2⟩ := info_parts iU32
  have hs0 := hup.size
  refine wpList_append_own w hgd s x 98 ho B 64 i0 (.int .u32 0) 1 4 uU32s hi hz0 hz1 hz2 rfl (by decide) v xs.length (xs.map uw) hs (hown.up hup) ⟨k, 0, none⟩ 1 1 [uw y] hx rfl ?_ ?_ ?_ ?_ ?_ ?_
  · intro j u hj
    match j, hj with
    | 0, hj =>
      simp at hj
      subst hj
      rw [Addr.add_lit]
      exact hy
  · intro u hu
    rw [List.mem_singleton.1 hu]; rfl
  · unfold maxLen; omega
  · omega
  · omega
  · intro v' w' hown' hg _
    refine h v' w' ?_ ?_
    · unfold Ww
      rw [List.length_append, List.map_append]
      exact hown'
    · refine Below.grown (hup.mono hB) hg (by omega) fun k hk => ?_
      exact ((hown.up hup).lt k hk).1
end Go.Proofs.YtfanndkhajokcaaDoor
