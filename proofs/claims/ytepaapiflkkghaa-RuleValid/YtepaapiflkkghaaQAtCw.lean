/- The document's card of attributes: the walk of CardOf. -/
import Derived.Test.YtepaapiflkkghaaQAtOToAtCd
namespace Go.Proofs.Ytepaapiflkkghaa
open Go.RowKit
attribute [local go_sem] World.cell?_alloc_some cell_alloc2 cell_alloc3 cell_alloc4 frozen?_alloc_cells frozen_out
set_option linter.unusedSimpArgs false
theorem wp_stb {ops : Array Oper} {rest : List Oper} {o : Oper} {a : Act} {Q : Exit → Act → World → Prop} {w : World} (hgd : o.guard = none) (x y : Operand) (ho : o.op = .store 4 x y) (b q : Nat) (t : Bool) (u : Value) (hx : a.eval x = .pointer (some ⟨b, q, none⟩)) (hy : a.eval y = .bool t) (hc : w.cell? ⟨b, q, none⟩ = some u) (hz : w.frozen? ⟨b, q, none⟩ = false)
    (h : wpList Try.prog ops Q rest (a.put o.dst undef) (w.setCell ⟨b, q, none⟩ (.bool t))) : wpList Try.prog ops Q (o :: rest) a w := by
  refine wpList_plain hgd fun K hK => ?_
  have e : (execOp a.eval o).run Try.prog w = .ok .skip (w.setCell ⟨b, q, none⟩ (.bool t)) := by
    generalize a.eval = ev at *
    unfold execOp
    simp [ho, hx, hy, go_sem, hc, hz]
  unfold Oper.wp
  rw [e]
  exact hK _ _ h
theorem wp_sts {ops : Array Oper} {rest : List Oper} {o : Oper} {a : Act} {Q : Exit → Act → World → Prop} {w : World} (hgd : o.guard = none) (x y : Operand) (ho : o.op = .store 9 x y) (b q : Nat) (t : ByteArray) (u : Value) (hx : a.eval x = .pointer (some ⟨b, q, none⟩)) (hy : a.eval y = .string t) (hc : w.cell? ⟨b, q, none⟩ = some u) (hz : w.frozen? ⟨b, q, none⟩ = false)
    (h : wpList Try.prog ops Q rest (a.put o.dst undef) (w.setCell ⟨b, q, none⟩ (.string t))) : wpList Try.prog ops Q (o :: rest) a w := by
  refine wpList_plain hgd fun K hK => ?_
  have e : (execOp a.eval o).run Try.prog w = .ok .skip (w.setCell ⟨b, q, none⟩ (.string t)) := by
    generalize a.eval = ev at *
    unfold execOp
    simp [ho, hx, hy, go_sem, hc, hz]
  unfold Oper.wp
  rw [e]
  exact hK _ _ h
set_option maxRecDepth 20000 in
set_option maxHeartbeats 8000000 in
theorem cardOf_walk (l : List Ar) (n : Nat) (hn : l.length = n) (hs : n ≤ 4611686018427387904) (b o c : Nat) (w : World) (HA : Hid (Ats w (.slice (some ⟨b, o, none⟩) n c) l)) :
    Calls Try.prog 42 #[.slice (some ⟨b, o, none⟩) n c] w fun e w' => e = .returned (.agg (crdC (crdF l)).toArray) ∧ Below w.heap.size w w' := by
  have HN : Hid (l.length = n ∧ (n : Int) ≤ 4611686018427387904) := ⟨hn, by omega⟩
  clear hn hs
  go_enter Try.func42, Try.ntmps42
  have s0 : Hid (Kn ((w.alloc (.cells (crdC fun _ => none).toArray 31)).alloc (.cells (crdC fun _ => none).toArray 31)) [(w.heap.size + 1, crdC (crdF (l.take 0))), (w.heap.size, crdC fun _ => none)]) := by
    rw [List.take_zero, crdF_nil]
    exact ((Kn.nil w).al (crdC fun _ => none) 31 rfl).al (crdC fun _ => none) 31 (by simp)
  have b0 : Hid (Below w.heap.size w ((w.alloc (.cells (crdC fun _ => none).toArray 31)).alloc (.cells (crdC fun _ => none).toArray 31))) := ((Below.refl _ _).alloc (Nat.le_refl _) _).alloc (by simp) _
  go_wp2_with (simp only [zero_card])
  go_loopw [8] (fun i wr => ∃ j : Nat, j ≤ n ∧ i = .int .i64 (j : Int) ∧ Hid (Kn wr [(w.heap.size + 1, crdC (crdF (l.take j))), (w.heap.size, crdC fun _ => none)]) ∧ Hid (Below w.heap.size w wr)) (fun i _ => n - (intOf i).toNat)
  case atStart => exact ⟨0, Nat.zero_le _, rfl, s0, b0⟩
  case round =>
    clear s0 b0
    obtain ⟨j, hj, rfl, sk, bk⟩ := hrel
    by_cases hlt : j < n
    · have i1 : (j : Int) < (n : Int) := by omega
      have i0 : (0 : Int) ≤ (j : Int) := by omega
      have jn : (n : Int) ≤ 4611686018427387904 := HN.out.2
      have HJ : Hid (j < n) := hlt
      obtain ⟨x, hx⟩ : ∃ x, Hid (l[j]? = some x) := ⟨l[j]'(by have := HN.out; omega), List.getElem?_eq_getElem _⟩
      obtain ⟨xa, xc, ex⟩ := HA.out.elem hx.out
      have EX : Hid (∀ W, Below w.heap.size w W → AtE W b (o + j * 2) x xa xc) := fun W hW => ex.up hW
      have e1 := EX.out wr bk.out
      have e2 : Hid (∀ (C : Array Value) t, AtE (wr.alloc (.cells C t)) b (o + j * 2) x xa xc) := fun C t => EX.out _ (bk.out.alloc bk.out.size _)
      have s2 : Hid (Kn (wr.alloc (.cells #[.int .i64 x.k, .slice xa x.v.length xc] 64)) [(wr.heap.size, [.int .i64 x.k, .slice xa x.v.length xc]), (w.heap.size + 1, crdC (crdF (l.take j))), (w.heap.size, crdC fun _ => none)]) := sk.out.al [.int .i64 x.k, .slice xa x.v.length xc] 64 rfl
      have b2 : Hid (Below w.heap.size w (wr.alloc (.cells #[.int .i64 x.k, .slice xa x.v.length xc] 64))) := bk.out.alloc bk.out.size _
      have et : l.take (j + 1) = l.take j ++ [x] := by rw [List.take_add_one, hx.out]; rfl
      have u0 := Kn.get s2.out 0 0 rfl rfl
      clear hlt hj ex bk sk
      by_cases h1 : x.k ≥ 1
      · by_cases h2 : x.k ≤ 18
        · obtain ⟨i, hi⟩ : ∃ i : Nat, x.k = (i : Int) := ⟨x.k.toNat, by omega⟩
          have ib : 1 ≤ i ∧ i ≤ 18 := by omega
          have hc := Kn.get s2.out 1 i rfl (crdC_has _ (by omega))
          have y0 : (0 : Int) ≤ (i : Int) := by omega
          have y1 : (i : Int) < 19 := by omega
          have r1 := e1.rng
          have r2 : Hid (∀ (C : Array Value) t, (wr.alloc (.cells C t)).rangeAt b (o + j * 2) [.int .i64 (i : Int), .slice xa x.v.length xc]) := fun C t => by rw [← hi]; exact (e2.out C t).rng
          rw [hi] at h1 h2 u0 s2 b2 r1 hc
          by_cases hf : crdF (l.take j) i = none
          · have hE : crdF (l.take (j + 1)) = putF (crdF (l.take j)) i x.v := by rw [et]; exact crdF_put ib hi hf
            rw [hf] at hc
            go_wp2_with (first | simp only [zero_attr] | refine wp_ldW rfl 64 _ rfl b (o + j * 2) rfl [.int .i64 (i : Int), .slice xa x.v.length xc] _ (by first | exact r1 | exact r2.out _ _) u_attr rfl (info_attr _ _) ?_)
            have W0 : Kn { (wr.alloc (.cells #[.int .i64 (i : Int), .slice xa x.v.length xc] 64)) with drawn := (wr.alloc (.cells #[.int .i64 (i : Int), .slice xa x.v.length xc] 64)).drawn + 1 } _ := s2.out.up (Below.refl _ _).drew
            have B0 : Below w.heap.size w { (wr.alloc (.cells #[.int .i64 (i : Int), .slice xa x.v.length xc] 64)) with drawn := (wr.alloc (.cells #[.int .i64 (i : Int), .slice xa x.v.length xc] 64)).drawn + 1 } := b2.out.drew
            have SV : Hid (∀ W L, Kn W ((wr.heap.size, [.int .i64 (i : Int), .slice xa x.v.length xc]) :: L) → Below w.heap.size w W → (W.cell? ⟨wr.heap.size, 0, none⟩ = some (.int .i64 (i : Int)) ∧ W.cell? ⟨wr.heap.size, 1, none⟩ = some (.slice xa x.v.length xc)) ∧ By W (.slice xa x.v.length xc) x.v) := fun W L hK hB => ⟨⟨Kn.get hK 0 0 rfl rfl, Kn.get hK 0 1 rfl rfl⟩, (EX.out W hB).2.2⟩
            have S0 : Hid _ := SV.out _ _ W0 B0
            clear u0 hc
            refine wp_region_held (S := fun W => (W.cell? ⟨wr.heap.size, 0, none⟩ = some (.int .i64 (i : Int)) ∧ W.cell? ⟨wr.heap.size, 1, none⟩ = some (.slice xa x.v.length xc)) ∧ By W (.slice xa x.v.length xc) x.v) (by kernel_rfl) ?_
            refine wpAnyH_take (i := 0) (v := (.pointer (some ⟨wr.heap.size, 0, none⟩))) (fuel := 12) rfl (by kernel_rfl) (by kernel_rfl) (by kernel_rfl) (fun _ _ _ h => h) (.inl ⟨wanted_none rfl, fun W hW => exec_faA (f := 0) (.tmp 5) rfl (by decide) (by kernel_rfl) W⟩) S0.out ?_
            simp only [List.getElem_toArray, List.getElem_cons_succ, List.getElem_cons_zero, Act.put, List.setIfInBounds_toArray, List.set_cons_succ, List.set_cons_zero]
            refine wpAnyH_take (i := 1) (v := (.int .i64 (i : Int))) rfl (by kernel_rfl) (by kernel_rfl) (by kernel_rfl) (fun _ _ _ h => h) (.inl ⟨wanted_none rfl, fun W hW => exec_ldi (.tmp 28) rfl (by kernel_rfl) W hW.1.1⟩) S0.out ?_
            simp only [List.getElem_toArray, List.getElem_cons_succ, List.getElem_cons_zero, Act.put, List.setIfInBounds_toArray, List.set_cons_succ, List.set_cons_zero]
            refine wpAnyH_take (i := 2) (v := (.pointer (some ⟨wr.heap.size, 0, none⟩))) rfl (by kernel_rfl) (by kernel_rfl) (by kernel_rfl) (fun _ _ _ h => h) (.inl ⟨wanted_none rfl, fun W hW => exec_faA (f := 0) (.tmp 5) rfl (by decide) (by kernel_rfl) W⟩) S0.out ?_
            simp only [List.getElem_toArray, List.getElem_cons_succ, List.getElem_cons_zero, Act.put, List.setIfInBounds_toArray, List.set_cons_succ, List.set_cons_zero]
            refine wpAnyH_take (i := 3) (v := (.int .i64 (i : Int))) rfl (by kernel_rfl) (by kernel_rfl) (by kernel_rfl) (fun _ _ _ h => h) (.inl ⟨wanted_none rfl, fun W hW => exec_ldi (.tmp 30) rfl (by kernel_rfl) W hW.1.1⟩) S0.out ?_
            simp only [List.getElem_toArray, List.getElem_cons_succ, List.getElem_cons_zero, Act.put, List.setIfInBounds_toArray, List.set_cons_succ, List.set_cons_zero]
            refine wpAnyH_take (i := 4) (v := (.pointer (some ⟨wr.heap.size, 1, none⟩))) rfl (by kernel_rfl) (by kernel_rfl) (by kernel_rfl) (fun _ _ _ h => h) (.inl ⟨wanted_none rfl, fun W hW => exec_faA (f := 1) (.tmp 5) rfl (by decide) (by kernel_rfl) W⟩) S0.out ?_
            simp only [List.getElem_toArray, List.getElem_cons_succ, List.getElem_cons_zero, Act.put, List.setIfInBounds_toArray, List.set_cons_succ, List.set_cons_zero]
            refine wpAnyH_take (i := 5) (v := (.slice xa x.v.length xc)) rfl (by kernel_rfl) (by kernel_rfl) (by kernel_rfl) (fun _ _ _ h => h) (.inl ⟨wanted_none rfl, fun W hW => exec_ldb (.tmp 32) rfl (by kernel_rfl) W hW.1.2⟩) S0.out ?_
            simp only [List.getElem_toArray, List.getElem_cons_succ, List.getElem_cons_zero, Act.put, List.setIfInBounds_toArray, List.set_cons_succ, List.set_cons_zero]
            refine wpAnyH_take (i := 6) (v := (.string (sOf x.v))) rfl (by kernel_rfl) (by kernel_rfl) (by kernel_rfl) (fun _ _ _ h => h) (.inl ⟨wanted_none rfl, fun W hW => exec_cvA (.tmp 33) rfl _ x.v (by kernel_rfl) W hW.2⟩) S0.out ?_
            simp only [List.getElem_toArray, List.getElem_cons_succ, List.getElem_cons_zero, Act.put, List.setIfInBounds_toArray, List.set_cons_succ, List.set_cons_zero]
            refine wpAnyH_take (i := 7) (v := (.pointer (some ⟨w.heap.size + 1, 0, none⟩))) rfl (by kernel_rfl) (by kernel_rfl) (by kernel_rfl) (fun _ _ _ h => h) (.inl ⟨wanted_none rfl, fun W hW => exec_faC (f := 0) (.tmp 3) rfl (by decide) (by kernel_rfl) W⟩) S0.out ?_
            simp only [List.getElem_toArray, List.getElem_cons_succ, List.getElem_cons_zero, Act.put, List.setIfInBounds_toArray, List.set_cons_succ, List.set_cons_zero]
            refine wpAnyH_take (i := 8) (v := (.pointer (some ⟨w.heap.size + 1, i, none⟩))) rfl (by kernel_rfl) (by kernel_rfl) (by kernel_rfl) (fun _ _ _ h => h) (.inl ⟨wanted_none rfl, fun W hW => exec_ixB (.tmp 35) (.tmp 29) rfl (by kernel_rfl) (by kernel_rfl) (by omega) (Nat.zero_add i) W⟩) S0.out ?_
            simp only [List.getElem_toArray, List.getElem_cons_succ, List.getElem_cons_zero, Act.put, List.setIfInBounds_toArray, List.set_cons_succ, List.set_cons_zero]
            refine wpAnyH_take (i := 10) (v := (.pointer (some ⟨w.heap.size + 1, 19, none⟩))) rfl (by kernel_rfl) (by kernel_rfl) (by kernel_rfl) (fun _ _ _ h => h) (.inl ⟨wanted_none rfl, fun W hW => exec_faC (f := 1) (.tmp 3) rfl (by decide) (by kernel_rfl) W⟩) S0.out ?_
            simp only [List.getElem_toArray, List.getElem_cons_succ, List.getElem_cons_zero, Act.put, List.setIfInBounds_toArray, List.set_cons_succ, List.set_cons_zero]
            refine anyH_one (i := 9) (by kernel_rfl) ?_
            refine anyH_l rfl (wp_stb rfl (.tmp 36) (.const (.bool true)) rfl (w.heap.size + 1) i true _ (by kernel_rfl) rfl (Kn.get W0 1 i rfl (crdC_has _ (by omega))) (Kn.fz W0 1 rfl i) ?_)
            have W1 := Kn.set (W0.front 1 rfl) i (.bool true) (by rw [crdC_length]; omega)
            have B1 := B0.setCell (p := ⟨w.heap.size + 1, i, none⟩) (Nat.le_succ _) (.bool true)
            have S1 : Hid _ := SV.out _ _ (W1.front 1 rfl) B1
            clear W0 B0 S0
            refine anyH_end ⟨S1.out, ?_⟩
            simp only [List.getElem_toArray, List.getElem_cons_succ, List.getElem_cons_zero, Act.put, List.setIfInBounds_toArray, List.set_cons_succ, List.set_cons_zero]
            refine wpAnyH_take (i := 11) (v := (.pointer (some ⟨w.heap.size + 1, 19 + i, none⟩))) rfl (by kernel_rfl) (by kernel_rfl) (by kernel_rfl) (fun _ _ _ h => h) (.inl ⟨wanted_none rfl, fun W hW => exec_ixS (.tmp 37) (.tmp 31) rfl (by kernel_rfl) (by kernel_rfl) (by omega) rfl W⟩) S1.out ?_
            simp only [List.getElem_toArray, List.getElem_cons_succ, List.getElem_cons_zero, Act.put, List.setIfInBounds_toArray, List.set_cons_succ, List.set_cons_zero]
            refine anyH_one (i := 12) (by kernel_rfl) ?_
            refine anyH_l rfl (wp_sts rfl (.tmp 38) (.tmp 34) rfl (w.heap.size + 1) (19 + i) (sOf x.v) _ (by kernel_rfl) (by kernel_rfl) (Kn.get W1 0 (19 + i) rfl (by rw [List.getElem?_set_ne (by omega)]; exact crdC_val _ (by omega))) (Kn.fz W1 0 rfl _) ?_)
            have W2 := Kn.set W1 (19 + i) (.string (sOf x.v)) (by rw [List.length_set, crdC_length]; omega)
            have B2 := B1.setCell (p := ⟨w.heap.size + 1, 19 + i, none⟩) (Nat.le_succ _) (.string (sOf x.v))
            rw [crdC_put _ (by omega), ← hE] at W2
            have S2 : Hid _ := SV.out _ _ (W2.front 1 rfl) B2
            refine anyH_end ⟨S2.out, ?_⟩
            simp only [List.getElem_toArray, List.getElem_cons_succ, List.getElem_cons_zero, Act.put, List.setIfInBounds_toArray, List.set_cons_succ, List.set_cons_zero]
            refine wpAnyH_done (by kernel_rfl) ?_ _
            have s3 : Hid _ := W2.drop 1
            have b3 : Hid _ := B2
            clear W1 W2 B1 B2 S1 S2 SV s2 et hE r1 hf b2
            go_wp2_with fail
            go_roundw
            case rel => exact ⟨j + 1, HJ.out, by go_num, s3, b3⟩
            case measure => simp [intOf]; have := HJ.out; omega
          · have hE : crdF (l.take (j + 1)) = crdF (l.take j) := by
              rw [et]
              exact crdF_skip fun h => hf (by have := h.2.2; rwa [hi, Int.toNat_natCast] at this)
            have hs : (crdF (l.take j) i).isSome = true := by
              cases hv : crdF (l.take j) i with
              | none => exact absurd hv hf
              | some v => rfl
            rw [hs] at hc
            have s3 : Hid (Kn (wr.alloc (.cells #[.int .i64 (i : Int), .slice xa x.v.length xc] 64)) [(w.heap.size + 1, crdC (crdF (l.take (j + 1)))), (w.heap.size, crdC fun _ => none)]) := by rw [hE]; exact s2.out.drop 0
            clear s2 et hE hs hf
            go_wp2_with (first | simp only [zero_attr] | refine wp_ldW rfl 64 _ rfl b (o + j * 2) rfl [.int .i64 (i : Int), .slice xa x.v.length xc] _ (by first | exact r1 | exact r2.out _ _) u_attr rfl (info_attr _ _) ?_)
            clear u0 hc
            go_roundw
            case rel => exact ⟨j + 1, HJ.out, by go_num, s3, b2⟩
            case measure => simp [intOf]; have := HJ.out; omega
        · have hE : crdF (l.take (j + 1)) = crdF (l.take j) := by rw [et]; exact crdF_skip fun h => h2 h.2.1
          have s3 : Hid (Kn (wr.alloc (.cells #[.int .i64 x.k, .slice xa x.v.length xc] 64)) [(w.heap.size + 1, crdC (crdF (l.take (j + 1)))), (w.heap.size, crdC fun _ => none)]) := by rw [hE]; exact s2.out.drop 0
          clear s2 et hE
          go_wp2_with (first | simp only [zero_attr] | refine wp_ldW rfl 64 _ rfl b (o + j * 2) rfl [.int .i64 x.k, .slice xa x.v.length xc] _ (by first | exact e1.rng | exact (e2.out _ _).rng) u_attr rfl (info_attr _ _) ?_)
          clear u0
          go_roundw
          case rel => exact ⟨j + 1, HJ.out, by go_num, s3, b2⟩
          case measure => simp [intOf]; have := HJ.out; omega
      · have hE : crdF (l.take (j + 1)) = crdF (l.take j) := by rw [et]; exact crdF_skip fun h => h1 h.1
        have s3 : Hid (Kn (wr.alloc (.cells #[.int .i64 x.k, .slice xa x.v.length xc] 64)) [(w.heap.size + 1, crdC (crdF (l.take (j + 1)))), (w.heap.size, crdC fun _ => none)]) := by rw [hE]; exact s2.out.drop 0
        clear s2 et hE
        go_wp2_with (first | simp only [zero_attr] | refine wp_ldW rfl 64 _ rfl b (o + j * 2) rfl [.int .i64 x.k, .slice xa x.v.length xc] _ (by first | exact e1.rng | exact (e2.out _ _).rng) u_attr rfl (info_attr _ _) ?_)
        clear u0
        go_roundw
        case rel => exact ⟨j + 1, HJ.out, by go_num, s3, b2⟩
        case measure => simp [intOf]; have := HJ.out; omega
    · have i1 : ¬ (j : Int) < (n : Int) := by omega
      have e : l.take j = l := List.take_of_length_le (by have := HN.out; omega)
      rw [e] at sk
      clear hlt hj e
      have TT : Hid (wr.there w.heap.size 0 (crdC (crdF l)).length) := Kn.there sk.out 1 rfl (by rw [crdC_length, crdC_length])
      go_wp2_with (first | refine wp_ldW rfl 31 _ rfl (w.heap.size + 1) 0 rfl (crdC (crdF l)) _ (Kn.rng sk.out 0 rfl) u_card rfl (info_card _) ?_ | refine I.wp_store_eq rfl 31 _ _ rfl w.heap.size 0 (crdC (crdF l)) rfl rfl TT.out (info_card _) (one_crd _) ?_)
      intro w9 hw9
      have s9 : Hid (Kn w9 [(w.heap.size, crdC (crdF l)), (w.heap.size + 1, crdC (crdF l))]) := by
        rw [hw9.out]
        exact Kn.put (sk.out.front 1 rfl) (by rw [crdC_length, crdC_length])
      have b9 : Hid (Below w.heap.size w w9) := by
        rw [hw9.out]
        exact I.below_setCells _ _ _ bk.out (Nat.le_refl _)
      clear hw9 sk bk TT
      go_wp2_with fail
      exact bodyPost_ret (v := .agg (crdC (crdF l)).toArray) (I.results_cell (b := w.heap.size) rfl rfl (Kn.rng s9.out 0 rfl) u_card rfl (info_card _)) rfl ⟨rfl, b9.out⟩
end Go.Proofs.Ytepaapiflkkghaa
