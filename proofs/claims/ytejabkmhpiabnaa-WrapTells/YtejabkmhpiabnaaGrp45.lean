/- Texts that were joined: BsMk, AesIs, WrC, WrapIs. -/
import Derived.Test.YtejabkmhpiabnaaBs
import Derived.Deep.RegionLaw
import Derived.Test.YtejabkmhpiabnaaAeX
import Derived.Test.YtejabkmhpiabnaaGrp8
import Derived.Test.YtejabkmhpiabnaaGrp28
import Derived.Test.YtejabkmhpiabnaaWaU
/- Rows of bytes that a call makes by make: their cells, and a store into one. -/
namespace Go.Proofs.Ytejabkmhpiabnaa
open Go.RowKit
theorem made_zerosB (n : Nat) : (madeCells (Value.int .u8 0).cells (n * 1)).toList = (List.replicate n 0).map b8 := by
  refine List.ext_getElem (by simp [madeCells]) fun i h1 h2 => ?_
  simp [madeCells, Value.cells, Nat.mod_one]
theorem wp_mkB {ops : Array Oper} {rest : List Oper} {o : Oper} {a : Act} {Q : Exit → Act → World → Prop} {w : World} (hg : o.guard = none) (l c : Operand) (hop : o.op = Op.makeSlice 22 l c)
    (B n : Nat) (L C : Int) (hl : a.eval l = .int .i64 L) (hc : a.eval c = .int .i64 C) (hL : L = (n : Int)) (hC : C = (n : Int)) (hn : n ≤ 281474976710656) (hB : B ≤ w.heap.size)
    (h : ∀ w', Ob w' B (.slice (some ⟨w.heap.size, 0, none⟩) n n) (List.replicate n 0) → Below B w w' → wpList Try.prog ops Q rest (a.put o.dst (.slice (some ⟨w.heap.size, 0, none⟩) n n)) w') : wpList Try.prog ops Q (o :: rest) a w := by
  obtain ⟨i0, hi, hz0, hz1, hz2⟩ := info_parts Try.iU8
  refine wpList_make_full w hg l c 22 hop B 5 i0 (.int .u8 0) 1 Try.uBytes hi hz0 hz1 .i64 .i64 L C n hl hc hL hC (by rw [hz2]; omega) (by unfold maxLen; omega) hB ?_
  intro w' r1 r2
  refine h w' ?_ (Below.grown (Below.refl _ _) r2 hB (fun k hk => by cases hk))
  unfold Ob
  rw [← made_zerosB, List.length_replicate]
  exact r1
theorem Ob.cell {w : World} {B g n c : Nat} {xs : List Nat} (h : Ob w B (.slice (some ⟨g, 0, none⟩) n c) xs) (hn : n = xs.length) (j : Nat) (hj : j < xs.length) : w.cell? ⟨g, j, none⟩ = some (.int .u8 ((xs.getD j 0 : Nat) : Int)) ∧ w.frozen? ⟨g, j, none⟩ = false := by
  subst hn
  have h2 : w.ownsRow B 5 1 (.slice (some ⟨g, 0, none⟩) xs.length c) xs.length (xs.map b8) := h
  refine ⟨?_, h2.frozenAt j⟩
  rw [h2.cellAt j (by omega)]
  simp [hj, b8]
theorem Ob.setAt {w : World} {B g n c : Nat} {xs : List Nat} (h : Ob w B (.slice (some ⟨g, 0, none⟩) n c) xs) (hn : n = xs.length) (hg : B ≤ g) (j y : Nat) (z : Int) (hz : z = ((y : Nat) : Int)) : Ob (w.setCell ⟨g, j, none⟩ (.int .u8 z)) B (.slice (some ⟨g, 0, none⟩) n c) (xs.set j y) ∧ Below B w (w.setCell ⟨g, j, none⟩ (.int .u8 z)) := by
  subst hn hz
  have h2 : w.ownsRow B 5 1 (.slice (some ⟨g, 0, none⟩) xs.length c) xs.length (xs.map b8) := h
  refine ⟨?_, (Below.refl _ _).setCell hg _⟩
  have := (h2.stored j (b8 y)).1
  unfold Ob
  rw [List.length_set, List.map_set]
  exact this
/-- Of word j what has come when the digits from k on are in. -/
def wfB (X k j : Nat) : Nat := X / 65536 ^ (max k (4 * j)) % 65536 ^ (4 * j + 4 - max k (4 * j))
end Go.Proofs.Ytejabkmhpiabnaa

/- The contracts of aes.Expand for bytes that are no key, and of aes.Key.Words; what package aes keeps, as one. -/
namespace Go.Proofs.Ytejabkmhpiabnaa
open Go.RowKit
set_option linter.unusedSimpArgs false
attribute [local go_sem] YieldsP execOp
attribute [local simp] MP.eq_p
set_option maxRecDepth 20000 in
set_option maxHeartbeats 1000000 in
theorem aexpBad_fun (key : List Nat) (hn : ¬ KeyN key.length) (v : Value) (w : World) (hv : By w v key) :
    Calls Try.prog 7 #[v] w fun e w' => e = .returned (.tuple #[.agg (kC (List.replicate 240 0) 0).toArray, .int .i64 1]) ∧ Below w.heap.size w w' := by
  obtain ⟨va, vc, rfl⟩ := hv.len
  have n1 : ((key.length : Int) == 16) = false := by have : ¬ key.length = 16 := fun h => hn (.inl h); simp; omega
  have n2 : ((key.length : Int) == 24) = false := by have : ¬ key.length = 24 := fun h => hn (.inr (.inl h)); simp; omega
  have n3 : ((key.length : Int) == 32) = false := by have : ¬ key.length = 32 := fun h => hn (.inr (.inr h)); simp; omega
  have m1 : ¬ (key.length : Int) = 16 := by simpa using n1
  have m2 : ¬ (key.length : Int) = 24 := by simpa using n2
  have m3 : ¬ (key.length : Int) = 32 := by simpa using n3
  have b1 : ((key.length : Int) != 16) = true := by rw [bne, n1]; rfl
  have b2 : ((key.length : Int) != 24) = true := by rw [bne, n2]; rfl
  have b3 : ((key.length : Int) != 32) = true := by rw [bne, n3]; rfl
  generalize key.length = L at *
  obtain ⟨z0, hz0⟩ : ∃ z0, z0 = kC (List.replicate 240 0) 0 := ⟨_, rfl⟩
  rw [← hz0]
  have ZK : ∀ w, (zeroValue 26).run Try.prog w = .ok (.agg z0.toArray) w := fun w => by rw [hz0]; exact zero_key w
  have ZL : Hid (z0.length = 241) := by rw [hz0]; exact kC_length 0 (by rw [List.length_replicate])
  have ZO : Hid (∀ v ∈ z0, v.oneCell' = true) := by rw [hz0]; exact kC_one _ _
  have IR : Hid _ := info_key.trans (congrArg some ZL.out.symm)
  have BK : Hid (Try.prog.built 26 [] = some z0.toArray) := by rw [hz0]; exact kbuilt0
  obtain ⟨x0, x1⟩ := Blk.al' w z0 26
  have X0 : Hid (Blk _ w.heap.size z0) := x0
  have X1 : Hid (Below w.heap.size w _) := x1
  have T0 : Hid (World.there _ w.heap.size 0 z0.length) := X0.out.there (by rw [ZL.out]; omega)
  obtain ⟨dk, uk, rk⟩ := u_key
  have UK : Hid (Try.prog.underlying 26 = some dk ∧ dk.isRow = true) := ⟨uk, rk⟩
  clear x0 x1 hz0 hn hv uk rk
  go_enter Try.func7, Try.ntmps7
  go_wp2_with (first | simp only [ZK] | refine wp_build0 rfl rfl BK.out ?_ | refine wp_store_eq rfl 26 (.tmp 2) (.tmp 21) rfl w.heap.size 0 z0 rfl rfl T0.out IR.out ZO.out ?_)
  intro w9 hw9
  go_wp2_with fail
  refine bodyPost_ret (v := .tuple #[.agg z0.toArray, .int .i64 1]) ?_ rfl ⟨rfl, ?_⟩
  · rw [hw9.out]
    exact axr_cell2 (b := w.heap.size) rfl rfl rfl (World.rangeAt_setCells_same _ _ _ _ T0.out) UK.out.1 UK.out.2 IR.out
  · rw [hw9.out]
    exact below_setCells _ _ _ X1.out (Nat.le_refl _)
/-- make of words. -/
theorem made_zerosQ (n : Nat) : ((madeCells (aB (List.replicate 4 0)).cells (n * 4)).toList) = ((List.replicate n (List.replicate 4 0)).flatten).map b8 := by
  have e : (List.replicate n (List.replicate 4 0)).flatten = List.replicate (n * 4) 0 := by
    rw [List.flatten_replicate_replicate]
  rw [e]
  refine List.ext_getElem (by simp [madeCells]) fun i h1 h2 => ?_
  have h4 : i % 4 < 4 := Nat.mod_lt _ (by decide)
  have h : i % 4 = 0 ∨ i % 4 = 1 ∨ i % 4 = 2 ∨ i % 4 = 3 := by omega
  simp [madeCells, Value.cells]
  rcases h with e | e | e | e <;> rw [e] <;> rfl
theorem wp_mkQ {ops : Array Oper} {rest : List Oper} {o : Oper} {a : Act} {Q : Exit → Act → World → Prop} {w : World} (hg : o.guard = none) (l c : Operand) (hop : o.op = Op.makeSlice 44 l c)
    (n : Nat) (L : Int) (hl : a.eval l = .int .i64 L) (hc : a.eval c = .int .i64 L) (hL : L = (n : Int)) (hn : n ≤ 65536)
    (h : ∀ w', Blk w' w.heap.size ((List.replicate (n * 4) 0).map b8) → Below w.heap.size w w' → wpList Try.prog ops Q rest (a.put o.dst (.slice (some ⟨w.heap.size, 0, none⟩) n n)) w') : wpList Try.prog ops Q (o :: rest) a w := by
  obtain ⟨i0, hi, hz0, hz1, hz2⟩ := info_parts iA4
  refine wpList_make_full w hg l c 44 hop w.heap.size 23 i0 (aB (List.replicate 4 0)) 4 uQss hi hz0 hz1 .i64 .i64 L L n hl hc hL hL (by rw [hz2]; omega) (by unfold maxLen; omega) (Nat.le_refl _) ?_
  intro w' r1 r2
  refine h w' ?_ (Below.grown (Below.refl _ _) r2 (Nat.le_refl _) (fun k hk => by cases hk))
  rcases r1.2 with ⟨e, _⟩ | ⟨g, cap, cur, e, _, hgg, _, _, hsz, htk⟩
  · cases e
  · cases e
    have hb := Blk.of_heap hgg
    have e2 : cur.toList = (List.replicate (n * 4) 0).map b8 := by
      rw [List.take_of_length_le (by rw [Array.length_toList, hsz]; omega)] at htk
      rw [htk, made_zerosQ, List.flatten_replicate_replicate]
    rw [e2] at hb
    exact hb
theorem wp_copyW {ops : Array Oper} {rest : List Oper} {o : Oper} {act : Act} {Q : Exit → Act → World → Prop} {w : World} (hgd : o.guard = none) (d s : Operand)
    (ho : o.op = .call { callee := .builtin .copy, args := #[d, s], argTypes := #[44, 44] }) (b f dl dc g q sl sc : Nat) (xs : List Nat) (hd : act.eval d = .slice (some ⟨b, f, none⟩) dl dc) (hs : act.eval s = .slice (some ⟨g, q, none⟩) sl sc) (hn : xs.length = Nat.min sl dl * 4) (hr : w.rangeAt g q (xs.map b8))
    (ht : w.there b f xs.length)
    (h : ∀ w2, Hid (w2 = w.setCells b f (xs.map b8)) → wpList Try.prog ops Q rest (act.put o.dst (goInt (Nat.min sl dl))) w2) : wpList Try.prog ops Q (o :: rest) act w := by
  refine wpList_plain hgd fun K hK => ?_
  have hrun := run_copyW w o.type b f dl dc g q sl sc (xs.map b8) (by rw [List.length_map]; exact hn) hr (by rw [List.length_map]; exact ht) (one_b8 _)
  unfold Oper.wp
  simp [execOp, ho, resolve, invoke, builtin, hd, hs, hrun, Result.andThen]
  exact hK _ _ (h _ rfl)
/-- An array of words sliced whole. -/
theorem slice_all60 (b o : Nat) (w : World) : (Instr.sliceAt 24 (.pointer (some ⟨b, o, none⟩)) none none none).run Try.prog w = .ok (.slice (some ⟨b, o, none⟩) 60 60) w := by
  have ha : Try.prog.arrayLen 24 = 60 := by simp [Program.arrayLen, u_w60]
  have he : Try.prog.elem 24 = 23 := by simp [Program.elem, u_w60]
  rw [run_sliceAt_array_all w 24 ⟨b, o, none⟩ (by rw [ha, he]; exact u_w60), ha, he]
  have hz : (Try.prog.info? 23).map (·.size) = some 4 := info_a4
  cases hq : Try.prog.info? 23 with
  | none => simp [hq] at hz
  | some i =>
    have hi : i.size = 4 := by simpa [hq] using hz
    simp [sizeOf, typeInfo, hq, hi, slicedAt, Addr.add_zero']
theorem wp_all60 {ops : Array Oper} {rest : List Oper} {o : Oper} {a : Act} {Q : Exit → Act → World → Prop} {w : World} (hgd : o.guard = none) (x : Operand) (ho : o.op = .slice 24 x none none none) (b f : Nat) (hx : a.eval x = .pointer (some ⟨b, f, none⟩))
    (h : wpList Try.prog ops Q rest (a.put o.dst (.slice (some ⟨b, f, none⟩) 60 60)) w) : wpList Try.prog ops Q (o :: rest) a w := by
  refine wpList_plain hgd fun K hK => ?_
  have e1 := slice_all60 b f w
  unfold Oper.wp
  simp [execOp, ho, hx, e1, Result.andThen]
  exact hK _ _ h
/-- These cells are what Expand made of the key. -/
def KyA (_ : World) (cs : List Value) (key : List Nat) : Prop := cs = kC (A.flat (A.keyW key)) (A.keyN key + 6) ∧ KeyB key
theorem KeyB.r {key : List Nat} (h : KeyB key) : (A.keyW key).length = 4 * (A.keyN key + 6 + 1) ∧ A.keyN key + 6 ≤ 14 := by
  rw [A.keyW_length]
  unfold A.keyN
  rcases h.len with e | e | e <;> rw [e] <;> decide
theorem KeyB.q {key : List Nat} (h : KeyB key) : (A.flat (A.keyW key)).length = 240 := A.flat_length h.ws.q (by have := h.r; omega)
theorem KeyB.enc {key : List Nat} (h : KeyB key) (b : List Nat) : A.encR (kf (A.flat (A.keyW key))) (A.keyN key + 6) b = A.encS (A.keyW key) b := by
  have hr := h.r
  unfold A.encS
  rw [show (A.keyW key).length / 4 - 1 = A.keyN key + 6 by omega]
  exact A.encR_congr (fun j hj => A.kf_rk h.ws.q (by omega)) b
theorem KeyB.dec {key : List Nat} (h : KeyB key) (b : List Nat) : A.decR (kf (A.flat (A.keyW key))) (A.keyN key + 6) b = A.decS (A.keyW key) b := by
  have hr := h.r
  unfold A.decS
  rw [show (A.keyW key).length / 4 - 1 = A.keyN key + 6 by omega]
  exact A.decR_congr (fun j hj => A.kf_rk h.ws.q (by omega)) b
/-- What package aes keeps. -/
theorem aesIs : AesC (fun _ => True) (kC (List.replicate 240 0) 0) KyA where
  tb := fun _ _ => trivial
  zero := by kernel_rfl
  info := by rw [kC_length 0 (by rw [List.length_replicate])]; exact info_key
  row := u_key
  up := fun h _ => h
  size := fun h => by rw [h.1, kC_length _ h.2.q, kC_length 0 (by rw [List.length_replicate])]
  one := fun h => by rw [h.1]; exact kC_one _ _
  zone := kC_one _ _
  expand := fun key v h w _ hv => by
    have hk : KyA w (kC (A.flat (A.keyW key)) (A.keyN key + 6)) key := ⟨rfl, h⟩
    rcases h.len with e | e | e
    · exact (aexp16_fun key e h.low v w hv).mono fun e' w' ⟨he, hb⟩ => ⟨_, he, ⟨by unfold A.keyN; rw [e], h⟩, hb⟩
    · exact (aexp24_fun key e h.low v w hv).mono fun e' w' ⟨he, hb⟩ => ⟨_, he, ⟨by unfold A.keyN; rw [e], h⟩, hb⟩
    · exact (aexp32_fun key e h.low v w hv).mono fun e' w' ⟨he, hb⟩ => ⟨_, he, ⟨by unfold A.keyN; rw [e], h⟩, hb⟩
  bad := fun key v _ hn w _ hv => aexpBad_fun key hn v w hv
  enc := fun key cs b h hb w _ hK => by
    rw [hK.1, ← h.enc b]
    exact aenc_fun _ _ h.q (A.flat_low h.ws) h.r.2 b hb w
  dec := fun key cs b h hb w _ hK => by
    rw [hK.1, ← h.dec b]
    exact adec_fun _ _ h.q (A.flat_low h.ws) h.r.2 b hb w
end Go.Proofs.Ytejabkmhpiabnaa

/- What package wrap must keep, over what package aes keeps: its calls' contracts as one premise. -/
namespace Go.Proofs.Ytejabkmhpiabnaa
open Go.RowKit
set_option linter.unusedSimpArgs false
structure WrapC (Tb : World → Prop) (zk : List Value) (Ky : World → List Value → List Nat → Prop) : Prop where
  wrap : ∀ (key : List Nat) (cs : List Value) (p : List Nat) (v : Value), KeyB key → (∀ x ∈ p, x < 256) → A.canW p.length → ∀ w, Tb w → Ky w cs key → By w v p → Calls Try.prog 9 #[.agg cs.toArray, v] w fun e w' => ∃ u, e = .returned (.tuple #[u, .int .i64 0]) ∧ By w' u (A.wrapS (A.keyW key) p) ∧ Below w.heap.size w w'
  wrapBad : ∀ (key : List Nat) (cs : List Value) (p : List Nat) (v : Value), KeyB key → (∀ x ∈ p, x < 256) → p.length ≤ 140737488351232 → ¬ A.canW p.length → ∀ w, Tb w → Ky w cs key → By w v p → Calls Try.prog 9 #[.agg cs.toArray, v] w fun e w' => ∃ u, e = .returned (.tuple #[u, .int .i64 1]) ∧ By w' u [] ∧ Below w.heap.size w w'
  wrapZero : ∀ (p : List Nat) (v : Value), (∀ x ∈ p, x < 256) → p.length ≤ 140737488351232 → ∀ w, Tb w → By w v p → Calls Try.prog 9 #[.agg zk.toArray, v] w fun e w' => ∃ u z, e = .returned (.tuple #[u, .int .i64 z]) ∧ Below w.heap.size w w'
/-- The same of Unwrap. -/
structure UnwrC (Tb : World → Prop) (Ky : World → List Value → List Nat → Prop) : Prop where
  unwrap : ∀ (key : List Nat) (cs : List Value) (c : List Nat) (v : Value), KeyB key → (∀ x ∈ c, x < 256) → A.canU c.length → ∀ w, Tb w → Ky w cs key → By w v c → Calls Try.prog 11 #[.agg cs.toArray, v] w fun e w' => ∃ u, e = .returned (.tuple #[u, .int .i64 (A.unE (A.unwrapS (A.keyW key) c))]) ∧ By w' u ((A.unwrapS (A.keyW key) c).getD []) ∧ Below w.heap.size w w'
  unwrapBad : ∀ (key : List Nat) (cs : List Value) (c : List Nat) (v : Value), KeyB key → (∀ x ∈ c, x < 256) → c.length ≤ 140737488351240 → ¬ A.canU c.length → ∀ w, Tb w → Ky w cs key → By w v c → Calls Try.prog 11 #[.agg cs.toArray, v] w fun e w' => ∃ u, e = .returned (.tuple #[u, .int .i64 1]) ∧ By w' u [] ∧ Below w.heap.size w w'
end Go.Proofs.Ytejabkmhpiabnaa

/- What package wrap keeps, as it landed. -/
namespace Go.Proofs.Ytejabkmhpiabnaa
open Go.RowKit
theorem wrapIs : WrapC (fun _ => True) (kC (List.replicate 240 0) 0) KyA where
  wrap := fun key cs p v KB hp hc w _ hk hv => by
    have hl : cs.length = 241 := by rw [hk.1]; exact kC_length _ KB.q
    exact wwrap_of cs hl (A.encS (A.keyW key)) (A.encE KB.ws) (fun b W hb => aesIs.enc key cs b KB hb W trivial hk) p v hp hc w hv
  wrapBad := fun key cs p v _ _ zp hc w _ _ hv => wwrap_bad cs p v (by omega) hc w hv
  wrapZero := fun p v hp zp w _ hv => by
    have hl : (List.replicate 240 0).length = 240 := List.length_replicate
    have lf : ∀ x ∈ List.replicate 240 0, x < 256 := fun x hx => by rw [(List.mem_replicate.1 hx).2]; decide
    by_cases hc : A.canW p.length
    · have h := wwrap_of (kC (List.replicate 240 0) 0) (kC_length 0 hl) (A.encR (kf (List.replicate 240 0)) 0) (fun b hb => A.encR_ok (fun j _ => kf_ok lf j) hb) (fun b W hb => aenc_fun _ 0 hl lf (by decide) b hb W) p v hp hc w hv
      exact h.mono fun e w' ⟨u, he, _, hb⟩ => ⟨u, 0, he, hb⟩
    · exact (wwrap_bad _ p v (by omega) hc w hv).mono fun e w' ⟨u, he, _, hb⟩ => ⟨u, 1, he, hb⟩
theorem unwrapIs : UnwrC (fun _ => True) KyA where
  unwrap := fun key cs c v KB hp hc w _ hk hv => by
    have hl : cs.length = 241 := by rw [hk.1]; exact kC_length _ KB.q
    exact wunwrap_of cs hl (A.decS (A.keyW key)) (A.decE KB.ws) (fun b W hb => aesIs.dec key cs b KB hb W trivial hk) c v hp hc w hv
  unwrapBad := fun key cs c v _ _ zc hc w _ _ hv => wunwrap_bad cs c v (by omega) hc w hv
end Go.Proofs.Ytejabkmhpiabnaa
