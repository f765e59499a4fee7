/- Texts that were joined: HHash, HRFrom, HRS, HLaw, Fil, SlA, HX, MSame, MacM. -/
import Derived.Test.YtdcpicbkemmakabDoorQUpLToHSum
import Derived.Test.YtdcpicbkemmakabDoorQHLaidToHRBlock
import Derived.Test.YtdcpicbkemmakabDoorQHRPad
import Derived.ChangeKeysEq
import Derived.Test.YtdcpicbkemmakabDoorQBKToHB
/- The contracts of hash.Sum, hash.Resume and sealringkeep.hashes. -/
namespace Go.Proofs.YtdcpicbkemmakabDoor
open Go.RowKit
set_option linter.unusedSimpArgs false
/-- The digest of a text. -/
def sumS (p : List Nat) : List Nat := digS (wordsS IV (p ++ padS (cntS 0 p)))
theorem sumS_length (p : List Nat) : (sumS p).length = 32 := digS_length _
theorem write_fun (H : R8) (n : Nat) (hn : n % 64 = 0) (p q : List Nat) (lp : ∀ x ∈ p, x < 256) (lq : ∀ x ∈ q, x < 256) (hq : q.length ≤ 9223372036854775807) (v : Value) (w : World) (hv : By w v q) (hT : KTab w) :
    Calls Tryd.prog 55 #[stV H n p, v] w fun e w' => e = .returned (stV H n (p ++ q)) ∧ Below w.heap.size w w' :=
  write_core H n hn p q lp lq hq v w hv hT
set_option maxRecDepth 20000 in
set_option maxHeartbeats 2000000 in
theorem hsum_fun (p : List Nat) (lp : ∀ x ∈ p, x < 256) (hp : p.length ≤ 9223372036854775807) (v : Value) (w : World) (hv : By w v p) (hT : KTab w) :
    Calls Tryd.prog 53 #[v] w fun e w' => e = .returned (vB (sumS p)) ∧ Below w.heap.size w w' := by
  have W1 : Hid _ := write_fun IV 0 rfl [] p (by simp) lp hp
  have S1 : Hid _ := sum_fun IV 0 rfl p lp
  have HV : Hid (By w v p) := hv
  have HT : Hid (KTab w) := hT
  have ID : Hid _ := info_d32.trans (congrArg some (show 32 = ((sumS p).map b8).length by rw [List.length_map, sumS_length]))
  obtain ⟨x0, x1⟩ := al1 w #[Value.int IntKind.u8 0, Value.int IntKind.u8 0, Value.int IntKind.u8 0, Value.int IntKind.u8 0, Value.int IntKind.u8 0, Value.int IntKind.u8 0, Value.int IntKind.u8 0, Value.int IntKind.u8 0, Value.int IntKind.u8 0, Value.int IntKind.u8 0, Value.int IntKind.u8 0, Value.int IntKind.u8 0, Value.int IntKind.u8 0, Value.int IntKind.u8 0, Value.int IntKind.u8 0, Value.int IntKind.u8 0, Value.int IntKind.u8 0, Value.int IntKind.u8 0, Value.int IntKind.u8 0, Value.int IntKind.u8 0, Value.int IntKind.u8 0, Value.int IntKind.u8 0, Value.int IntKind.u8 0, Value.int IntKind.u8 0, Value.int IntKind.u8 0, Value.int IntKind.u8 0, Value.int IntKind.u8 0, Value.int IntKind.u8 0, Value.int IntKind.u8 0, Value.int IntKind.u8 0, Value.int IntKind.u8 0, Value.int IntKind.u8 0] 83
  have X0 : Hid (Blk _ _ ((List.replicate 32 0).map b8)) := x0
  have X1 : Hid (Below _ _ _) := x1
  rw [List.nil_append] at W1
  clear hv hT lp hp x0 x1
  go_enter Tryd.func53, Tryd.ntmps53
  go_wp2_with fail
  generalize w.alloc (Obj.cells #[Value.int IntKind.u8 0, Value.int IntKind.u8 0, Value.int IntKind.u8 0, Value.int IntKind.u8 0, Value.int IntKind.u8 0, Value.int IntKind.u8 0, Value.int IntKind.u8 0, Value.int IntKind.u8 0, Value.int IntKind.u8 0, Value.int IntKind.u8 0, Value.int IntKind.u8 0, Value.int IntKind.u8 0, Value.int IntKind.u8 0, Value.int IntKind.u8 0, Value.int IntKind.u8 0, Value.int IntKind.u8 0, Value.int IntKind.u8 0, Value.int IntKind.u8 0, Value.int IntKind.u8 0, Value.int IntKind.u8 0, Value.int IntKind.u8 0, Value.int IntKind.u8 0, Value.int IntKind.u8 0, Value.int IntKind.u8 0, Value.int IntKind.u8 0, Value.int IntKind.u8 0, Value.int IntKind.u8 0, Value.int IntKind.u8 0, Value.int IntKind.u8 0, Value.int IntKind.u8 0, Value.int IntKind.u8 0, Value.int IntKind.u8 0] 83) = w1 at *
  refine (new_fun _).mono ?_
  rintro e w2 ⟨rfl, hb2⟩
  have D2 : Hid (Below w.heap.size w w2) := X1.out.trans (hb2.mono X1.out.size)
  have Y2 : Hid (Blk w2 _ _) := X0.out.up hb2 X0.out.lt
  clear hb2 X0 X1
  go_wp2_with fail
  refine (W1.out v w2 (HV.out.up D2.out (Nat.le_refl _)) (HT.out.up D2.out HT.out.pos)).mono ?_
  rintro e w3 ⟨rfl, hb3⟩
  have D3 : Hid (Below w.heap.size w w3) := D2.out.trans (hb3.mono D2.out.size)
  have Y3 : Hid (Blk w3 _ _) := Y2.out.up hb3 Y2.out.lt
  clear hb3 D2 Y2
  go_wp2_with fail
  refine (S1.out w3 (HT.out.up D3.out HT.out.pos)).mono ?_
  rintro e w4 ⟨rfl, hb4⟩
  have D4 : Hid (Below w.heap.size w w4) := D3.out.trans (hb4.mono D3.out.size)
  have Y4 : Hid (Blk w4 w.heap.size ((List.replicate 32 0).map b8)) := Y3.out.up hb4 Y3.out.lt
  clear hb4 D3 Y3
  have T1 : Hid (w4.there w.heap.size 0 ((sumS p).map b8).length) := Y4.out.there (by rw [List.length_map, sumS_length]; simp)
  go_wp2_with (refine wp_store_eq rfl 83 (.tmp 2) (.tmp 6) rfl w.heap.size 0 ((sumS p).map b8) rfl rfl T1.out ID.out (one_b8 _) ?_)
  intro w5 hw5
  go_wp2_with fail
  refine bodyPost_ret (v := vB (sumS p)) ?_ rfl ⟨rfl, ?_⟩
  · rw [hw5.out]
    exact results_cell (b := w.heap.size) rfl rfl (World.rangeAt_setCells_same _ _ _ _ T1.out) u_d32 rfl ID.out
  · rw [hw5.out]
    exact below_setCells _ _ _ D4.out (Nat.le_refl _)
end Go.Proofs.YtdcpicbkemmakabDoor

/- The contracts of sealringref.From, Begin and Sum. -/
namespace Go.Proofs.YtdcpicbkemmakabDoor
open Go.RowKit
set_option linter.unusedSimpArgs false
end Go.Proofs.YtdcpicbkemmakabDoor

/- The contracts of sealringref.Begin and Sum. -/
namespace Go.Proofs.YtdcpicbkemmakabDoor
open Go.RowKit
set_option linter.unusedSimpArgs false
attribute [local go_sem] YieldsP execOp
attribute [local simp] MP.eq_p
end Go.Proofs.YtdcpicbkemmakabDoor

/- What the laws' own walks need: states in variables, digests held against each other. -/
namespace Go.Proofs.YtdcpicbkemmakabDoor
open Go.RowKit
set_option linter.unusedSimpArgs false
section
variable {P : Program}

end


theorem wpList_wanted {P : Program} {ops : Array Oper} {rest : List Oper} {o : Oper} {a : Act} {Q : Exit → Act → World → Prop} {w : World} (hg : Region.wanted o (yielded ops a.tmps) = true)
    (h : ∀ K : Act → World → Prop, (∀ a w, wpList P ops Q rest a w → K a w) → o.wp P a w K Q) : wpList P ops Q (o :: rest) a w :=
  wpList_step fun K hK => by simp only [hg, if_true]; exact h K hK
/-- The state of a text lies in block k. -/
def StAt (w : World) (k : Nat) (H : R8) (n : Nat) (p : List Nat) : Prop := Blk w k (cS (wordsS H p) (restS p) (cntS n p))
theorem StAt.up {W w1 : World} {k B : Nat} {H : R8} {n : Nat} {p : List Nat} (h : StAt W k H n p) (hb : Below B W w1) (hB : k < B) : StAt w1 k H n p := Blk.up h hb hB
theorem StAt.lt {W : World} {k : Nat} {H : R8} {n : Nat} {p : List Nat} (h : StAt W k H n p) : k < W.heap.size := Blk.lt h
end Go.Proofs.YtdcpicbkemmakabDoor

/- Structs and rows that are built of parts: what lies where. -/
namespace Go.Proofs.YtdcpicbkemmakabDoor
open Go.RowKit
set_option linter.unusedSimpArgs false
theorem lay_foldl (off : Nat) : ∀ (v : List Value) (n : Nat) (X : Array Value) (a b c : List Value), X.toList = a ++ (b ++ c) → a.length = off + n → b.length = v.length → ((v.zipIdx n).foldl (fun (cs : Array Value) (x : Value × Nat) => cs.setIfInBounds (off + x.2) x.1) X).toList = a ++ (v ++ c)
  | [], n, X, a, b, c, hX, ha, hb => by
    rw [List.length_eq_zero_iff.1 hb] at hX
    simpa using hX
  | x :: v, n, X, a, y :: b, c, hX, ha, hb => by
    rw [List.zipIdx_cons, List.foldl_cons]
    rw [lay_foldl off v (n + 1) _ (a ++ [x]) b c ?_ (by simp; omega) (by simpa using hb)]
    · simp
    · rw [Array.toList_setIfInBounds, hX, List.set_append_right _ _ (by omega), ha]
      simp
  | x :: v, n, X, a, [], c, hX, ha, hb => by simp at hb
theorem built_of {t : TypeId} {zc : Array Value} {places : List (Nat × Nat)} (hz : (Tryd.prog.info? t).map (·.zero) = some (some (.agg zc)))
    (hp : ((Tryd.prog.underlying t).bind fun d => match d with | .struct fields => fields.toList.mapM (fun f => (Tryd.prog.info? f.type).map fun i => (f.offset, i.size)) | _ => none) = some places) (parts : List (Nat × Value)) : Tryd.prog.built t parts = Instr.fill (places.toArray[·]?) zc parts := by
  unfold Program.built
  cases e1 : Tryd.prog.info? t with
  | none => simp [e1] at hz
  | some it =>
    have e3 : it.zero = some (.agg zc) := by simpa [e1] using hz
    cases e2 : Tryd.prog.underlying t with
    | none => simp [e2] at hp
    | some d =>
      rw [e2, Option.bind_some] at hp
      cases d <;> simp at hp
      rename_i fields
      simp only [e3, hp, Value.cells]
theorem foldl_zip (A : List Value) (f : Array Value → Value × Nat → Array Value) (X : Array Value) : A.toArray.zipIdx.foldl f X = A.zipIdx.foldl f X := by
  rw [← Array.foldl_toList, Array.toList_zipIdx]
theorem fill_step (pl : Nat → Option (Nat × Nat)) (X : Array Value) (i off : Nat) (v a b c : List Value) (rest : List (Nat × Value)) (hp : pl i = some (off, v.length)) (hX : X.toList = a ++ (b ++ c)) (ha : a.length = off) (hb : b.length = v.length) :
    Instr.fill pl X ((i, .agg v.toArray) :: rest) = Instr.fill pl (a ++ (v ++ c)).toArray rest := by
  have hs : X.size = a.length + (b.length + c.length) := by
    rw [← Array.length_toList, hX]
    simp
  rw [Instr.fill, hp]
  simp only [Value.cells, List.size_toArray]
  rw [if_neg (by simp; omega)]
  congr 1
  apply Array.ext'
  rw [foldl_zip]
  exact lay_foldl off v 0 X a b c hX (by omega) hb
end Go.Proofs.YtdcpicbkemmakabDoor

/- An array sliced whole; bytes of a block as a slice; bytes one behind the other. -/
namespace Go.Proofs.YtdcpicbkemmakabDoor
open Go.RowKit
set_option linter.unusedSimpArgs false
theorem low_app {a b : List Nat} (ha : ∀ x ∈ a, x < 256) (hb : ∀ x ∈ b, x < 256) : ∀ x ∈ a ++ b, x < 256 := fun x hx => (List.mem_append.1 hx).elim (ha x) (hb x)
theorem low_rep (n : Nat) : ∀ x ∈ List.replicate n 0, x < 256 := fun x hx => by rw [(List.mem_replicate.1 hx).2]; decide
theorem slice_all {t e : TypeId} {n : Nat} (ht : Tryd.prog.underlying t = some (.array n e)) (hz : (Tryd.prog.info? e).map (·.size) = some 1) (hn : 0 < n) (b o : Nat) (w : World) :
    (Instr.sliceAt t (.pointer (some ⟨b, o, none⟩)) none none none).run Tryd.prog w = .ok (.slice (some ⟨b, o, none⟩) n n) w := by
  have ha : Tryd.prog.arrayLen t = n := by simp [Program.arrayLen, ht]
  have he : Tryd.prog.elem t = e := by simp [Program.elem, ht]
  rw [run_sliceAt_array_all w t ⟨b, o, none⟩ (by rw [ha, he]; exact ht), ha, he]
  cases hq : Tryd.prog.info? e with
  | none => simp [hq] at hz
  | some i =>
    have hi : i.size = 1 := by simpa [hq] using hz
    simp [sizeOf, typeInfo, hq, hi, slicedAt, Addr.add_zero', Nat.ne_of_gt hn]
theorem By.of_blk {w : World} {k n : Nat} {xs : List Nat} (h : Blk w k (xs.map b8)) (hl : xs.length = n) : By w (.slice (some ⟨k, 0, none⟩) n n) xs := by
  subst hl
  refine By.of_cells (Nat.le_refl _) fun j hj => ?_
  rw [Nat.zero_add]
  exact h.cell j _ (by simp [List.getD_eq_getElem?_getD, hj])
end Go.Proofs.YtdcpicbkemmakabDoor

/- Small laws that marks and trees share: bytes of digests; structs and slices that are built; an array sliced whole. -/
namespace Go.Proofs.YtdcpicbkemmakabDoor
open Go.RowKit
set_option linter.unusedSimpArgs false
theorem dbyte_lt (H : R8) (k : Nat) : dbyte H k < 256 := by
  unfold dbyte
  omega
theorem sumS_low (p : List Nat) : ∀ x ∈ sumS p, x < 256 := by
  intro x hx
  unfold sumS digS at hx
  obtain ⟨j, _, rfl⟩ := List.mem_map.1 hx
  exact dbyte_lt _ _
end Go.Proofs.YtdcpicbkemmakabDoor

/- The contract of mac.Same: true just where both are the same bytes. -/
namespace Go.Proofs.YtdcpicbkemmakabDoor
open Go.RowKit
set_option linter.unusedSimpArgs false
theorem wrap8 (n : Nat) (h : n < 256) : IntKind.u8.wrap (n : Int) = n := by
  simp only [IntKind.wrap, IntKind.bits, IntKind.signed]
  simp
  omega
theorem of8 (x : Nat) (h : x < 256) : (BitVec.ofInt 8 (x : Int)).toNat = x := by
  rw [BitVec.toNat_ofInt]
  omega
theorem xor_lt {x y : Nat} (hx : x < 256) (hy : y < 256) : x ^^^ y < 256 := Nat.xor_lt_two_pow (n := 8) hx hy
theorem b_xor {x y : Nat} (hx : x < 256) (hy : y < 256) : bits .xor .u8 (x : Int) (y : Int) = ((x ^^^ y : Nat) : Int) := by
  show IntKind.u8.wrap (((BitVec.ofInt 8 (x : Int) ^^^ BitVec.ofInt 8 (y : Int)).toNat : Nat) : Int) = _
  rw [BitVec.toNat_xor, of8 _ hx, of8 _ hy]
  exact wrap8 _ (xor_lt hx hy)
theorem getD_low {xs : List Nat} (h : ∀ x ∈ xs, x < 256) (k : Nat) : xs.getD k 0 < 256 := by
  rw [List.getD_eq_getElem?_getD]
  cases e : xs[k]? with
  | none => simp
  | some x => exact h x (List.mem_of_getElem? e)
theorem xor_zero {x y : Nat} : x ^^^ y = 0 ↔ x = y := by
  constructor
  · intro h
    apply Nat.eq_of_testBit_eq
    intro i
    have := congrArg (·.testBit i) h
    simpa using this
  · rintro rfl; simp
end Go.Proofs.YtdcpicbkemmakabDoor

/- Marks as functions of lists; the cells of a mark's state, and how one is built. -/
namespace Go.Proofs.YtdcpicbkemmakabDoor
open Go.RowKit
set_option linter.unusedSimpArgs false
/-- The key, fit to a block. -/
def fitS (k : List Nat) : List Nat := if 64 < k.length then sumS k ++ List.replicate 32 0 else k ++ List.replicate (64 - k.length) 0
theorem fitS_length (k : List Nat) : (fitS k).length = 64 := by
  unfold fitS
  split
  · rw [List.length_append, sumS_length, List.length_replicate]
  · rw [List.length_append, List.length_replicate]; omega
theorem fitS_low {k : List Nat} (h : ∀ x ∈ k, x < 256) : ∀ x ∈ fitS k, x < 256 := by
  unfold fitS
  split
  · exact low_app (sumS_low k) (low_rep _)
  · exact low_app h (low_rep _)
/-- Each byte xor b. -/
def xb (K : List Nat) (b : Nat) : List Nat := K.map (· ^^^ b)
theorem xb_length (K : List Nat) (b : Nat) : (xb K b).length = K.length := by simp [xb]
theorem xb_low {K : List Nat} (h : ∀ x ∈ K, x < 256) {b : Nat} (hb : b < 256) : ∀ x ∈ xb K b, x < 256 := by
  intro x hx
  obtain ⟨y, hy, rfl⟩ := List.mem_map.1 hx
  exact xor_lt (h y hy) hb
/-- The first k bytes xor b, the others as they are. -/
def xK (K : List Nat) (b k : Nat) : List Nat := xb (K.take k) b ++ K.drop k
theorem xK_zero (K : List Nat) (b : Nat) : xK K b 0 = K := by simp [xK, xb]
theorem xK_all (K : List Nat) (b : Nat) {k : Nat} (h : K.length = k) : xK K b k = xb K b := by subst h; simp [xK]
theorem xK_length (K : List Nat) (b k : Nat) : (xK K b k).length = K.length := by
  simp [xK, xb]
  omega
theorem xK_get (K : List Nat) (b k : Nat) (h : k < K.length) : (xK K b k)[k]? = some (K.getD k 0) := by
  unfold xK
  rw [List.getElem?_append_right (by simp [xb]; omega), List.getElem?_drop]
  simp [xb, List.getD_eq_getElem?_getD, h, Nat.min_eq_left (Nat.le_of_lt h)]
theorem xK_set (K : List Nat) (b k : Nat) (h : k < K.length) : (xK K b k).set k (K.getD k 0 ^^^ b) = xK K b (k + 1) := by
  have e : (K.drop k) = K.getD k 0 :: K.drop (k + 1) := by
    rw [List.drop_eq_getElem_cons h]
    simp [List.getD_eq_getElem?_getD, h]
  have l : (xb (K.take k) b).length = k := by simp [xb]; omega
  have t : K.take (k + 1) = K.take k ++ [K.getD k 0] := by
    rw [List.take_add_one]
    simp [List.getD_eq_getElem?_getD, h]
  unfold xK
  rw [List.set_append_right _ _ (by omega), l, e, Nat.sub_self, List.set_cons_zero, t]
  simp [xb]
/-- A text's mark by a key of one block. -/
def markK (K p : List Nat) : List Nat := sumS (xb K 92 ++ sumS (xb K 54 ++ p))
def markS (k p : List Nat) : List Nat := markK (fitS k) p
theorem markK_length (K p : List Nat) : (markK K p).length = 32 := sumS_length _
/-- The cells of the state of a text. -/
def stC (p : List Nat) : List Value := cS (wordsS IV p) (restS p) (cntS 0 p)
theorem stC_length (p : List Nat) : (stC p).length = 73 := cS_length _ _ _ (restS_length p)
theorem stV_eq (p : List Nat) : stV IV 0 p = .agg (stC p).toArray := rfl
theorem one_stC (p : List Nat) : ∀ v ∈ stC p, v.oneCell' = true := one_cS _ _ _
def mC (K p : List Nat) : List Value := stC (xb K 54 ++ p) ++ stC (xb K 92)
theorem mC_length (K p : List Nat) : (mC K p).length = 146 := by rw [mC, List.length_append, stC_length, stC_length]
theorem one_mC (K p : List Nat) : ∀ v ∈ mC K p, v.oneCell' = true := fun v hv => (List.mem_append.1 hv).elim (one_stC _ v) (one_stC _ v)
/-- A mark's state: the key K, of one block, and the text p. -/
def mV (K p : List Nat) : Value := .agg (mC K p).toArray
theorem mac_places : ((Tryd.prog.underlying 77).bind fun d => match d with | .struct fields => fields.toList.mapM (fun f => (Tryd.prog.info? f.type).map fun i => (f.offset, i.size)) | _ => none) = some [(0, 73), (73, 73)] := by kernel_rfl
theorem info_mstz : (Tryd.prog.info? 77).map (·.zero) = some (some (.agg (zS ++ zS).toArray)) := by kernel_rfl
theorem built_mac (A B : List Value) (hA : A.length = 73) (hB : B.length = 73) : Tryd.prog.built 77 [(0, .agg A.toArray), (1, .agg B.toArray)] = some (A ++ B).toArray := by
  rw [built_of info_mstz mac_places, fill_step _ _ 0 0 A [] zS zS _ (by rw [hA]; rfl) (by simp) rfl (by rw [hA, zS_length]), fill_step _ _ 1 73 B A zS [] _ (by rw [hB]; rfl) (by simp) hA (by rw [hB, zS_length]), Instr.fill]
  simp
theorem info_mst : (Tryd.prog.info? 77).map (·.size) = some 146 := by kernel_rfl
theorem zero_mst (w : World) : (zeroValue 77).run Tryd.prog w = .ok (.agg (zS ++ zS).toArray) w := by
  have := info_mstz
  cases h : Tryd.prog.info? 77 with
  | none => simp [h] at this
  | some d =>
    have hz : d.zero = some (.agg (zS ++ zS).toArray) := by simpa [h] using this
    simp [zeroValue, typeInfo, h, hz]
theorem u_mst0 : (Tryd.prog.underlying 77).map TypeDesc.isRow = some true := by kernel_rfl
theorem u_mst : ∃ d, Tryd.prog.underlying 77 = some d ∧ d.isRow = true := by
  have := u_mst0
  cases h : Tryd.prog.underlying 77 with
  | none => simp [h] at this
  | some d => exact ⟨d, rfl, by simpa [h] using this⟩
end Go.Proofs.YtdcpicbkemmakabDoor
