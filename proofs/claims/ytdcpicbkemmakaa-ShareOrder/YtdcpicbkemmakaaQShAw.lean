/- The document's value of the polynomial through shares: the walk. -/
import Derived.Test.YtdcpicbkemmakaaQUpSToShA
import Derived.Test.YtdcpicbkemmakaaQYcToShR
import Derived.Test.YtdcpicbkemmakaaQOwnToShW
import Derived.Test.YtdcpicbkemmakaaQUpVToOfB
namespace Go.Proofs.Ytdcpicbkemmakaa
open Go.RowKit
attribute [local go_sem] World.cell?_alloc_some cell_alloc2 cell_alloc3 cell_alloc4 frozen?_alloc_cells frozen_out
attribute [local go_sem] YieldsP execOp
attribute [local simp] MP.eq_p MP.sl_p
set_option linter.unusedSimpArgs false
theorem u_share : Try.prog.underlying 34 = some (.struct (match Try.prog.underlying 34 with | some (.struct fs) => fs | _ => #[])) := by kernel_rfl
theorem info_share (s : Shr) : (Try.prog.info? 34).map (·.size) = some (shC s).length := by rw [shC_length]; kernel_rfl
def shZ : List Value := [.int .i64 0, .int .u64 0, .int .u64 0, .int .u64 0, .int .u64 0]
theorem zero_share (w : World) : (zeroValue 34).run Try.prog w = .ok (.agg shZ.toArray) w := I.zero_of (by kernel_rfl) w
theorem cfDig (args : Array Value) (W : World) : (callFunc 19 args).run Try.prog W = .ok (.enter 19 args) W := cf_is (fn := Try.f19) (by kernel_rfl) (by decide) (by kernel_rfl) args W
theorem cfMl (args : Array Value) (W : World) : (callFunc 18 args).run Try.prog W = .ok (.enter 18 args) W := cf_is (fn := Try.f18) (by kernel_rfl) (by decide) (by kernel_rfl) args W
theorem cfTi (args : Array Value) (W : World) : (callFunc 23 args).run Try.prog W = .ok (.enter 23 args) W := cf_is (fn := Try.f23) (by kernel_rfl) (by decide) (by kernel_rfl) args W
theorem cfPl (args : Array Value) (W : World) : (callFunc 24 args).run Try.prog W = .ok (.enter 24 args) W := cf_is (fn := Try.f24) (by kernel_rfl) (by decide) (by kernel_rfl) args W
theorem cfRe (args : Array Value) (W : World) : (callFunc 22 args).run Try.prog W = .ok (.enter 22 args) W := cf_is (fn := Try.f22) (by kernel_rfl) (by decide) (by kernel_rfl) args W
theorem cfPr (args : Array Value) (W : World) : (callFunc 11 args).run Try.prog W = .ok (.enter 11 args) W := cf_is (fn := Try.f11) (by kernel_rfl) (by decide) (by kernel_rfl) args W
theorem yields_u1 {o : Oper} {a : Act} {w : World} {x : Tmp} (y : Nat) (ho : o.op = .buildSlice 65 1 #[(0, .tmp x)]) (hx : a.tmps.getD x undef = .int .u64 (y : Int)) : YieldsP Try.prog o a w (MP.u1 y).p := by
  have hx' : a.tmps[x]?.getD undef = .int .u64 (y : Int) := by simpa using hx
  have e : (execOp a.eval o).run Try.prog w = .ok (.value (.slice (some ⟨w.heap.size, 0, none⟩) 1 1)) (w.alloc (.cells #[.int .u64 (y : Int)] 25)) := by
    unfold execOp
    simp [ho, hx', go_sem]
  unfold YieldsP
  rw [e]
  exact ⟨⟨w.heap.size, rfl, by simp [go_sem]⟩, (Below.refl _ _).alloc (Nat.le_refl _) _⟩
set_option maxRecDepth 20000 in
set_option maxHeartbeats 4000000 in
theorem sharesAt_walk (n b o cp x O O2 : Nat) (n1 : 0 < n) (n20 : n ≤ 20) (x256 : x < 256) (X H DX TH PH : Nat → Nat) (ys : Nat → Nm) (c : Nm) (E DN OV DF TM : Nat → Nat → Nat)
    (w : World)
    (XL : Hid (∀ i, X i < 256))
    (CR : Hid (∀ W, Below w.heap.size w W → ∀ i, i < n → W.rangeAt b (o + i * 5) (shC ⟨(X i : Int), ys i⟩)))
    (ON : Hid (∀ i, i < n → ∀ W, Calls Try.prog 10 #[N (ys i)] W fun e w' => (∃ v', e = .returned v' ∧ Sl w' v' (P.dg (E i 0))) ∧ Below W.heap.size W w'))
    (PR : Hid (∀ W, Calls Try.prog 11 #[] W fun e w' => (∃ v', e = .returned v' ∧ Sl w' v' (P.dg (O))) ∧ Below W.heap.size W w'))
    (MI : Hid (∀ u v W, Sl W u (P.dg O) → Sl W v [2] → Calls Try.prog 21 #[u, v] W fun e w' => (∃ v', e = .returned v' ∧ Sl w' v' (P.dg (O2))) ∧ Below W.heap.size W w'))
    (ML1 : Hid (∀ I K, 1 ≤ K → K ≤ I → I < n → ∀ u v W, Sl W u (P.dg (X I)) → Sl W v (P.dg (X (I - K))) → Calls Try.prog 18 #[u, v] W fun e w' => (∃ v', e = .returned v' ∧ Sl w' v' (P.dg (DN I K))) ∧ Below W.heap.size W w'))
    (PW : Hid (∀ I K, 1 ≤ K → K ≤ I → I < n → ∀ u v t W, Sl W u (P.dg (DN I K)) → Sl W v (P.dg O2) → Sl W t (P.dg O) → Calls Try.prog 20 #[u, v, t] W fun e w' => (∃ v', e = .returned v' ∧ Sl w' v' (P.dg (OV I K))) ∧ Below W.heap.size W w'))
    (ML2 : Hid (∀ I K, 1 ≤ K → K ≤ I → I < n → ∀ u v W, Sl W u (P.dg (E I (K - 1))) → Sl W v (P.dg (E (I - 1) (K - 1))) → Calls Try.prog 18 #[u, v] W fun e w' => (∃ v', e = .returned v' ∧ Sl w' v' (P.dg (DF I K))) ∧ Below W.heap.size W w'))
    (TI : Hid (∀ I K, 1 ≤ K → K ≤ I → I < n → ∀ u v W, Sl W u (P.dg (DF I K)) → Sl W v (P.dg (OV I K)) → Calls Try.prog 23 #[u, v] W fun e w' => (∃ v', e = .returned v' ∧ Sl w' v' (P.dg (TM I K))) ∧ Below W.heap.size W w'))
    (RE : Hid (∀ I K, 1 ≤ K → K ≤ I → I < n → ∀ u v W, Sl W u (P.dg (TM I K)) → Sl W v (P.dg O) → Calls Try.prog 22 #[u, v] W fun e w' => (∃ v', e = .returned v' ∧ Sl w' v' (P.dg (E I K))) ∧ Below W.heap.size W w'))
    (ML3 : Hid (∀ J, J < n → ∀ u v W, Sl W u (P.dg x) → Sl W v (P.dg (X J)) → Calls Try.prog 18 #[u, v] W fun e w' => (∃ v', e = .returned v' ∧ Sl w' v' (P.dg (DX J))) ∧ Below W.heap.size W w'))
    (TI3 : Hid (∀ m, m < n → ∀ u v W, Sl W u (P.dg (H m)) → Sl W v (P.dg (DX (n - (m + 1)))) → Calls Try.prog 23 #[u, v] W fun e w' => (∃ v', e = .returned v' ∧ Sl w' v' (P.dg (TH m))) ∧ Below W.heap.size W w'))
    (PL3 : Hid (∀ m, m < n → ∀ u v W, Sl W u (P.dg (TH m)) → Sl W v (P.dg (E (n - (m + 1)) (n - (m + 1)))) → Calls Try.prog 24 #[u, v] W fun e w' => (∃ v', e = .returned v' ∧ Sl w' v' (P.dg (PH m))) ∧ Below W.heap.size W w'))
    (RE3 : Hid (∀ m, m < n → ∀ u v W, Sl W u (P.dg (PH m)) → Sl W v (P.dg O) → Calls Try.prog 22 #[u, v] W fun e w' => (∃ v', e = .returned v' ∧ Sl w' v' (P.dg (H (m + 1)))) ∧ Below W.heap.size W w'))
    (H0 : H 0 = 0)
    (TN : Hid (∀ u W, Sl W u (P.dg (H n)) → Calls Try.prog 25 #[u] W fun e w' => e = .returned (N c) ∧ Below W.heap.size W w')) :
    Calls Try.prog 7 #[.slice (some ⟨b, o, none⟩) n cp, .int .i64 (x : Int)] w fun e w' => e = .returned (N c) ∧ Below w.heap.size w w' := by
  have wn : IntKind.i64.wrap ((n : Int) - 1) = (n : Int) - 1 := by rw [IntKind.wrap_i64]; omega
  have N20 : Hid (0 < n ∧ n ≤ 20) := ⟨n1, n20⟩
  have CX : Hid (∀ W, Below w.heap.size w W → ∀ i, i < n → W.cell? ⟨b, o + i * 5, none⟩ = some (.int .i64 (X i : Int))) := fun W hW i hi => CR.out W hW i hi 0 _ rfl
  have HZ : Hid (H 0 = 0) := H0
  have HX : Hid (x < 256) := x256
  clear n1 H0 x256
  go_enter Try.func7, Try.ntmps7
  go_wp2_with (first | refine wp_mkSl rfl _ _ rfl n _ rfl rfl rfl (by omega) ?_)
  clear n20
  intro w2 k2 h2
  have s1 : Kn (w.alloc (.cells #[.int .u64 0, .int .u64 0, .int .u64 0, .int .u64 0] 27)) [(w.heap.size, zz4)] := (Kn.nil w).al zz4 27 rfl
  have ge : (w.alloc (.cells #[.int .u64 0, .int .u64 0, .int .u64 0, .int .u64 0] 27)).heap.size = w.heap.size + 1 := by simp
  try rw [ge] at h2
  try rw [ge] at k2
  have s2 : Hid (Rw2 w2 (w.heap.size + 1) n (fun i => if i < 0 then E i 0 else 0) [(w.heap.size, zz4)]) := (Rw2.zero (s1.fresh_of (by rw [ge]; exact h2) (by rw [ge]; exact Nat.le_refl _) k2)).congr fun i _ => by rw [if_neg (Nat.not_lt_zero i)]
  have b2 : Hid (Below w.heap.size w w2) := ((Below.refl _ _).alloc (Nat.le_refl _) _).trans (h2.mono (by omega))
  clear s1 h2 k2 ge
  go_wp2_with fail
  go_loopw [19] (fun i wr => ∃ j : Nat, j ≤ n ∧ i = .int .i64 (j : Int) ∧ Hid (Rw2 wr (w.heap.size + 1) n (fun i => if i < j then E i 0 else 0) [(w.heap.size, zz4)]) ∧ Hid (Below w.heap.size w wr)) (fun i _ => n - (intOf i).toNat)
  case atStart => exact ⟨0, Nat.zero_le _, rfl, s2, b2⟩
  case round =>
    clear s2 b2
    obtain ⟨j, hj, rfl, sk, bk⟩ := hrel
    by_cases hlt : j < n
    · have i1 : (j : Int) < (n : Int) := by omega
      have i0 : (0 : Int) ≤ (j : Int) := by omega
      have j20 : (j : Int) < 20 := by have := N20.out; omega
      have HJ : Hid (j < n) := hlt
      clear hlt hj
      have rk : (wr.alloc (.cells #[.int .i64 (X j : Int), .int .u64 (ys j).a, .int .u64 (ys j).b, .int .u64 (ys j).c, .int .u64 (ys j).d] 34)).heap.size = wr.heap.size + 1 := by simp
      go_wp2_with (first | simp only [zero_share] | refine wp_ldW rfl 34 _ rfl b (o + j * 5) rfl [.int .i64 (X j : Int), .int .u64 (ys j).a, .int .u64 (ys j).b, .int .u64 (ys j).c, .int .u64 (ys j).d] _ (CR.out _ (by first | exact bk.out | exact bk.out.alloc bk.out.size _) j HJ.out) u_share rfl (info_share ⟨(X j : Int), ys j⟩) ?_)
      refine (ON.out j HJ.out _).mono ?_
      rintro e w3 ⟨⟨v3, rfl, h3⟩, hb3⟩
      obtain ⟨a3, c3, e3⟩ := h3.parts
      generalize (P.dg (E j 0)).length = l3 at e3
      subst e3
      have sk3 : Hid (Rw2 w3 (w.heap.size + 1) n (fun i => if i < j then E i 0 else 0) [(w.heap.size, zz4)]) := (sk.out.up ((Below.refl _ _).alloc (Nat.le_refl _) _)).up hb3
      have b3 : Hid (Below w.heap.size w w3) := (bk.out.alloc bk.out.size _).trans (hb3.mono (by rw [rk]; exact Nat.le_succ_of_le bk.out.size))
      have H3 : Hid (Sl w3 (.slice a3 l3 c3) (P.dg (E j 0))) := h3
      clear hb3 h3 sk bk rk
      obtain ⟨vo, co, so⟩ := sk3.out.get j HJ.out
      have zo := sk3.out.fz
      have s4 : Hid (Rw2 (w3.setCell ⟨w.heap.size + 1, j, none⟩ (.slice a3 l3 c3)) (w.heap.size + 1) n (fun i => if i < j + 1 then E i 0 else 0) [(w.heap.size, zz4)]) := (sk3.out.set j HJ.out H3.out).congr fun i _ => by
        by_cases h1 : i = j
        · subst h1; rw [if_pos rfl, if_pos (Nat.lt_succ_self _)]
        · rw [if_neg h1]
          by_cases h2 : i < j
          · rw [if_pos h2, if_pos (by omega)]
          · rw [if_neg h2, if_neg (by omega)]
      have b4 : Hid (Below w.heap.size w (w3.setCell ⟨w.heap.size + 1, j, none⟩ (.slice a3 l3 c3))) := b3.out.setCell (p := ⟨w.heap.size + 1, j, none⟩) (Nat.le_succ _) _
      clear sk3 b3 H3 so
      go_wp2_with fail
      go_roundw
      case rel => exact ⟨j + 1, HJ.out, by go_num, s4, b4⟩
      case measure => simp [intOf]; have := HJ.out; omega
    · obtain rfl : j = n := by omega
      have sB : Hid (Rw2 wr (w.heap.size + 1) j (fun i => E i (min i (1 - 1))) [(w.heap.size, zz4)]) := sk.out.congr fun i hi => by rw [if_pos hi, Nat.sub_self, Nat.min_zero]
      clear sk hlt hj
      go_wp2_with fail
      go_loopw [8] (fun k wr => ∃ K : Nat, 1 ≤ K ∧ K ≤ j ∧ k = .int .i64 (K : Int) ∧ Hid (Rw2 wr (w.heap.size + 1) j (fun i => E i (min i (K - 1))) [(w.heap.size, zz4)]) ∧ Hid (Below w.heap.size w wr)) (fun k _ => j - (intOf k).toNat)
      case atStart => exact ⟨1, Nat.le_refl _, N20.out.1, rfl, sB, bk⟩
      case round =>
        clear sB bk
        obtain ⟨K, hK1, hK, rfl, sk, bk⟩ := hrel
        have HK1 : Hid (1 ≤ K) := hK1
        by_cases hlt : K < j
        · have i1 : (K : Int) < (j : Int) := by omega
          have k20 : (K : Int) < 20 := by have := N20.out; omega
          have HK : Hid (K < j) := hlt
          have sI : Hid (Rw2 wr (w.heap.size + 1) j (fun i => if j - 1 < i then E i (min i K) else E i (min i (K - 1))) [(w.heap.size, zz4)]) := sk.out.congr fun i hi => by rw [if_neg (by omega)]
          have e1 : Hid ((j : Int) - 1 = ((j - 1 : Nat) : Int)) := by show _ = _; omega
          clear hlt hK hK1 sk
          go_wp2_with fail
          go_loopw [9] (fun i wr => ∃ I : Nat, K - 1 ≤ I ∧ I < j ∧ i = .int .i64 (I : Int) ∧ Hid (Rw2 wr (w.heap.size + 1) j (fun i => if I < i then E i (min i K) else E i (min i (K - 1))) [(w.heap.size, zz4)]) ∧ Hid (Below w.heap.size w wr)) (fun i _ => (intOf i).toNat)
          case atStart => exact ⟨j - 1, by have := HK.out; omega, by have := HK.out; omega, by rw [e1.out], sI, bk⟩
          case round =>
            clear sI bk e1
            obtain ⟨I, hI0, hI, rfl, sq, bq⟩ := hrel
            by_cases hlt : K ≤ I
            · have i2 : (I : Int) ≥ (K : Int) := by omega
              have HI : Hid (K ≤ I ∧ I < j) := ⟨hlt, hI⟩
              obtain ⟨M, hM⟩ : ∃ M, Hid (I - K = M) := ⟨_, rfl⟩
              obtain ⟨I1, hI1⟩ : ∃ I1, Hid (I - 1 = I1) := ⟨_, rfl⟩
              have a0 : (0 : Int) ≤ (I : Int) := by omega
              have a1 : (I : Int) < (j : Int) := by omega
              have m0 : (0 : Int) ≤ (M : Int) := by omega
              have m1 : (M : Int) < (j : Int) := by have := hM.out; omega
              have r0 : (0 : Int) ≤ (I1 : Int) := by omega
              have r1 : (I1 : Int) < (j : Int) := by have := hI1.out; omega
              have wM : IntKind.i64.wrap ((I : Int) - (K : Int)) = (M : Int) := by rw [IntKind.wrap_i64]; have := hM.out; have := N20.out; omega
              have wI1 : IntKind.i64.wrap ((I : Int) - 1) = (I1 : Int) := by rw [IntKind.wrap_i64]; have := hI1.out; have := N20.out; have := HK1.out; omega
              have xI := XL.out I
              have xM := XL.out M
              have M1 := ML1.out I K HK1.out hlt hI
              rw [hM.out] at M1
              have M1 : Hid _ := M1
              have M2 := ML2.out I K HK1.out hlt hI
              rw [hI1.out] at M2
              have M2 : Hid _ := M2
              have PWI : Hid _ := PW.out I K HK1.out hlt hI
              have TII : Hid _ := TI.out I K HK1.out hlt hI
              have REI : Hid _ := RE.out I K HK1.out hlt hI
              have lM : Hid (M < j) := by have := hM.out; show _ < _; omega
              have lI1 : Hid (I1 < j) := by have := hI1.out; show _ < _; omega
              clear hlt hI hI0
              go_wp2_with fail
              refine wp_region_monoE [MP.eq (.slice (some ⟨b, o, none⟩) j cp), MP.eq (.int .i64 (I : Int)), MP.eq (.pointer (some ⟨b, o + I * 5, none⟩)), MP.eq (.pointer (some ⟨b, o + I * 5, none⟩)), MP.eq (.int .i64 (X I : Int)), MP.eq (.int .u64 (X I : Int)), MP.u1 (X I), MP.sl (P.dg (X I)), MP.eq (.slice (some ⟨b, o, none⟩) j cp), MP.eq (.int .i64 (I : Int)), MP.eq (.int .i64 (K : Int)), MP.eq (.int .i64 (M : Int)), MP.eq (.pointer (some ⟨b, o + M * 5, none⟩)), MP.eq (.pointer (some ⟨b, o + M * 5, none⟩)), MP.eq (.int .i64 (X M : Int)), MP.eq (.int .u64 (X M : Int)), MP.u1 (X M), MP.sl (P.dg (X M)), MP.sl (P.dg (DN I K)), MP.sl (P.dg (DN I K))] (by kernel_rfl) (by kernel_rfl) rfl ?_
              apply Exists.intro
              refine ⟨fun vals => ?_, ?_, fun vals5 w5 hb5 hF => ?_⟩
              · simp only [putsV, dstL, List.length_cons, List.length_nil, Nat.zero_add, Nat.reduceAdd, List.getElem?_cons_zero, List.getElem?_cons_succ, Option.bind_some, Act.put, List.setIfInBounds_toArray, List.set_cons_succ, List.set_cons_zero]
                rfl
              · refine ⟨?_, ?_, ?_, ?_, ?_, ?_, ?_, ?_, ?_, ?_, ?_, ?_, ?_, ?_, ?_, ?_, ?_, ?_, ?_, ?_, trivial⟩
                · intro vals W hW hw hd
                  try simp [Region.binds] at hd
                  refine ⟨by first | rfl | simp [Region.wanted, yielded, hd], ?_⟩
                  exact yields_mv (.tmp 0) rfl rfl
                · intro vals W hW hw hd
                  try simp [Region.binds] at hd
                  refine ⟨by first | rfl | simp [Region.wanted, yielded, hd], ?_⟩
                  exact yields_mv (.tmp 9) rfl rfl
                · intro vals W hW hw hd
                  try simp [Region.binds] at hd
                  refine ⟨by first | rfl | simp [Region.wanted, yielded, hd], ?_⟩
                  simp [go_sem, hd, a0, a1]
                  exact Below.refl _ _
                · intro vals W hW hw hd
                  try simp [Region.binds] at hd
                  refine ⟨by first | rfl | simp [Region.wanted, yielded, hd], ?_⟩
                  simp [go_sem, hd]
                  exact Below.refl _ _
                · intro vals W hW hw hd
                  try simp [Region.binds] at hd
                  refine ⟨by first | rfl | simp [Region.wanted, yielded, hd], ?_⟩
                  have ca := CX.out W (bq.out.trans (hW.out.mono bq.out.size)) I HI.out.2
                  simp [go_sem, hd, ca]
                  exact Below.refl _ _
                · intro vals W hW hw hd
                  try simp [Region.binds] at hd
                  refine ⟨by first | rfl | simp [Region.wanted, yielded, hd], ?_⟩
                  simp [go_sem, hd]
                  exact ⟨by rw [IntKind.wrap_u64]; omega, Below.refl _ _⟩
                · intro vals W hW hw hd
                  try simp [Region.binds] at hd
                  refine ⟨by first | rfl | simp [Region.wanted, yielded, hd], ?_⟩
                  exact yields_u1 _ rfl (by simpa using hd)
                · intro vals W hW hw hd
                  try simp [Region.binds] at hd
                  refine ⟨by first | rfl | simp [Region.wanted, yielded, hd], ?_⟩
                  obtain ⟨b9, e9, h9⟩ := hd
                  exact yields_call1 cfDig (.tmp 51) _ rfl _ (by exact e9) ((digits_one _ b9 (Nat.lt_trans xI (by decide)) W h9).mono fun e w' ⟨⟨v', he, hs⟩, hb⟩ => ⟨v', he, hs, hb⟩)
                · intro vals W hW hw hd
                  try simp [Region.binds] at hd
                  refine ⟨by first | rfl | simp [Region.wanted, yielded, hd], ?_⟩
                  exact yields_mv (.tmp 0) rfl rfl
                · intro vals W hW hw hd
                  try simp [Region.binds] at hd
                  refine ⟨by first | rfl | simp [Region.wanted, yielded, hd], ?_⟩
                  exact yields_mv (.tmp 9) rfl rfl
                · intro vals W hW hw hd
                  try simp [Region.binds] at hd
                  refine ⟨by first | rfl | simp [Region.wanted, yielded, hd], ?_⟩
                  exact yields_mv (.tmp 8) rfl rfl
                · intro vals W hW hw hd
                  try simp [Region.binds] at hd
                  refine ⟨by first | rfl | simp [Region.wanted, yielded, hd], ?_⟩
                  simp [go_sem, hd, wM]
                  exact Below.refl _ _
                · intro vals W hW hw hd
                  try simp [Region.binds] at hd
                  refine ⟨by first | rfl | simp [Region.wanted, yielded, hd], ?_⟩
                  simp [go_sem, hd, m0, m1]
                  exact Below.refl _ _
                · intro vals W hW hw hd
                  try simp [Region.binds] at hd
                  refine ⟨by first | rfl | simp [Region.wanted, yielded, hd], ?_⟩
                  simp [go_sem, hd]
                  exact Below.refl _ _
                · intro vals W hW hw hd
                  try simp [Region.binds] at hd
                  refine ⟨by first | rfl | simp [Region.wanted, yielded, hd], ?_⟩
                  have ca := CX.out W (bq.out.trans (hW.out.mono bq.out.size)) M lM.out
                  simp [go_sem, hd, ca]
                  exact Below.refl _ _
                · intro vals W hW hw hd
                  try simp [Region.binds] at hd
                  refine ⟨by first | rfl | simp [Region.wanted, yielded, hd], ?_⟩
                  simp [go_sem, hd]
                  exact ⟨by rw [IntKind.wrap_u64]; omega, Below.refl _ _⟩
                · intro vals W hW hw hd
                  try simp [Region.binds] at hd
                  refine ⟨by first | rfl | simp [Region.wanted, yielded, hd], ?_⟩
                  exact yields_u1 _ rfl (by simpa using hd)
                · intro vals W hW hw hd
                  try simp [Region.binds] at hd
                  refine ⟨by first | rfl | simp [Region.wanted, yielded, hd], ?_⟩
                  obtain ⟨⟨b9, e9, h9⟩, -⟩ := hd
                  exact yields_call1 cfDig (.tmp 61) _ rfl _ (by exact e9) ((digits_one _ b9 (Nat.lt_trans xM (by decide)) W h9).mono fun e w' ⟨⟨v', he, hs⟩, hb⟩ => ⟨v', he, hs, hb⟩)
                · intro vals W hW hw hd
                  try simp [Region.binds] at hd
                  refine ⟨by first | rfl | simp [Region.wanted, yielded, hd], ?_⟩
                  exact yields_call2 cfMl (.tmp 52) (.tmp 62) _ rfl _ _ rfl rfl ((M1.out _ _ W hd.1 hd.2).mono fun e w' ⟨⟨v', he, hs⟩, hb⟩ => ⟨v', he, hs, hb⟩)
                · intro vals W hW hw hd
                  try simp [Region.binds] at hd
                  refine ⟨by first | rfl | simp [Region.wanted, yielded, hd], ?_⟩
                  simp [go_sem]
                  exact ⟨by simp [hd], Below.refl _ _⟩
              obtain ⟨f0, f1, f2, f3, f4, f5, f6, f7, f8, f9, f10, f11, f12, f13, f14, f15, f16, f17, f18, f19, _⟩ := hF
              simp only [MP.eq_p] at f0 f1 f2 f3 f4 f5 f8 f9 f10 f11 f12 f13 f14 f15
              simp only [MP.sl_p] at f19
              have SD5 : Hid (Sl w5 (vals5 19) (P.dg (DN I K))) := f19
              have sq5 : Hid (Rw2 w5 (w.heap.size + 1) j (fun i => if I < i then E i (min i K) else E i (min i (K - 1))) [(w.heap.size, zz4)]) := sq.out.up hb5.out
              have b5 : Hid (Below w.heap.size w w5) := bq.out.trans (hb5.out.mono bq.out.size)
              clear f0 f1 f2 f3 f4 f5 f6 f7 f8 f9 f10 f11 f12 f13 f14 f15 f16 f17 f18 f19 hb5 sq bq M1
              generalize vals5 19 = vd at *
              go_wp2_with fail
              refine (PR.out _).mono ?_
              rintro e w6 ⟨⟨p6, rfl, h6⟩, hb6⟩
              have SD6 : Hid (Sl w6 vd (P.dg (DN I K))) := Sl.up (xs := P.dg (DN I K)) SD5.out hb6
              have sq6 : Hid (Rw2 w6 (w.heap.size + 1) j (fun i => if I < i then E i (min i K) else E i (min i (K - 1))) [(w.heap.size, zz4)]) := sq5.out.up hb6
              have b6 : Hid (Below w.heap.size w w6) := b5.out.trans (hb6.mono b5.out.size)
              have SP6 : Hid (Sl (w6.alloc (.cells #[.int .i64 2] 3)) p6 (P.dg O)) := Sl.up (xs := P.dg O) h6 ((Below.refl _ _).alloc (Nat.le_refl _) _)
              clear h6 hb6 SD5 sq5 b5
              go_wp2_with fail
              refine (MI.out _ _ _ SP6.out (Sl.one w6 2 2 rfl)).mono ?_
              rintro e w7 ⟨⟨p7, rfl, h7⟩, hb7⟩
              have ub : Below w6.heap.size w6 w7 := ((Below.refl _ _).alloc (Nat.le_refl _) _).trans (hb7.mono (by simp))
              have SD7 : Hid (Sl w7 vd (P.dg (DN I K))) := Sl.up (xs := P.dg (DN I K)) SD6.out ub
              have sq7 : Hid (Rw2 w7 (w.heap.size + 1) j (fun i => if I < i then E i (min i K) else E i (min i (K - 1))) [(w.heap.size, zz4)]) := sq6.out.up ub
              have b7 : Hid (Below w.heap.size w w7) := b6.out.trans (ub.mono b6.out.size)
              have SM7 : Hid (Sl w7 p7 (P.dg O2)) := h7
              clear h7 hb7 ub SD6 SP6 sq6 b6
              go_wp2_with fail
              refine (PR.out _).mono ?_
              rintro e w8 ⟨⟨p8, rfl, h8⟩, hb8⟩
              have SD8 : Hid (Sl w8 vd (P.dg (DN I K))) := Sl.up (xs := P.dg (DN I K)) SD7.out hb8
              have SM8 : Hid (Sl w8 p7 (P.dg O2)) := Sl.up (xs := P.dg O2) SM7.out hb8
              have SP8 : Hid (Sl w8 p8 (P.dg O)) := h8
              have sq8 : Hid (Rw2 w8 (w.heap.size + 1) j (fun i => if I < i then E i (min i K) else E i (min i (K - 1))) [(w.heap.size, zz4)]) := sq7.out.up hb8
              have b8 : Hid (Below w.heap.size w w8) := b7.out.trans (hb8.mono b7.out.size)
              clear h8 hb8 SD7 SM7 sq7 b7
              go_wp2_with fail
              refine (PWI.out _ _ _ _ SD8.out SM8.out SP8.out).mono ?_
              rintro e w9 ⟨⟨vo, rfl, h9⟩, hb9⟩
              have SO9 : Hid (Sl w9 vo (P.dg (OV I K))) := h9
              have sq9 : Hid (Rw2 w9 (w.heap.size + 1) j (fun i => if I < i then E i (min i K) else E i (min i (K - 1))) [(w.heap.size, zz4)]) := sq8.out.up hb9
              have b9 : Hid (Below w.heap.size w w9) := b8.out.trans (hb9.mono b8.out.size)
              clear h9 hb9 SD8 SM8 SP8 sq8 b8 PWI
              obtain ⟨v5, cv5, sv5⟩ := sq9.out.get I HI.out.2
              rw [if_neg (Nat.lt_irrefl I), Nat.min_eq_right (by have := HI.out; omega)] at sv5
              obtain ⟨v6, cv6, sv6⟩ := sq9.out.get I1 lI1.out
              rw [if_neg (by have := hI1.out; omega), Nat.min_eq_right (by have := hI1.out; have := HI.out; omega)] at sv6
              have C5 : Hid (∀ W, Below w9.heap.size w9 W → W.cell? ⟨w.heap.size + 1, I, none⟩ = some v5 ∧ Sl W v5 (P.dg (E I (K - 1)))) := fun W hW => ⟨(hW.cell (p := ⟨w.heap.size + 1, I, none⟩) (lt_of_cell cv5)).trans cv5, Sl.up sv5 hW⟩
              have C6 : Hid (∀ W, Below w9.heap.size w9 W → W.cell? ⟨w.heap.size + 1, I1, none⟩ = some v6 ∧ Sl W v6 (P.dg (E I1 (K - 1)))) := fun W hW => ⟨(hW.cell (p := ⟨w.heap.size + 1, I1, none⟩) (lt_of_cell cv6)).trans cv6, Sl.up sv6 hW⟩
              have SOW : Hid (∀ W, Below w9.heap.size w9 W → Sl W vo (P.dg (OV I K))) := fun W hW => Sl.up (xs := P.dg (OV I K)) SO9.out hW
              clear cv5 sv5 cv6 sv6 SO9
              go_wp2_with fail
              refine wp_region_monoSE 17 [MP.eq (.slice (some ⟨w.heap.size + 1, 0, none⟩) j j), MP.eq (.int .i64 (I : Int)), MP.eq (.slice (some ⟨w.heap.size + 1, 0, none⟩) j j), MP.eq (.int .i64 (I : Int)), MP.eq (.pointer (some ⟨w.heap.size + 1, I, none⟩)), MP.sl (P.dg (E I (K - 1))), MP.eq (.slice (some ⟨w.heap.size + 1, 0, none⟩) j j), MP.eq (.int .i64 (I : Int)), MP.eq (.int .i64 (I1 : Int)), MP.eq (.pointer (some ⟨w.heap.size + 1, I1, none⟩)), MP.sl (P.dg (E I1 (K - 1))), MP.sl (P.dg (DF I K)), MP.eq vo, MP.sl (P.dg (TM I K)), MP.sl (P.dg O), MP.sl (P.dg (E I K)), MP.eq (.pointer (some ⟨w.heap.size + 1, I, none⟩))] (by kernel_rfl) (by kernel_rfl) rfl (by decide) (by kernel_rfl) ?_
              apply Exists.intro
              refine ⟨fun vals => ?_, ?_, fun vals10 w10 hb10 hF hO => ?_⟩
              · simp only [putsV, dstL, List.length_cons, List.length_nil, Nat.zero_add, Nat.reduceAdd, List.getElem?_cons_zero, List.getElem?_cons_succ, Option.bind_some, Act.put, List.setIfInBounds_toArray, List.set_cons_succ, List.set_cons_zero]
                rfl
              · refine ⟨?_, ?_, ?_, ?_, ?_, ?_, ?_, ?_, ?_, ?_, ?_, ?_, ?_, ?_, ?_, ?_, ?_, trivial⟩
                · intro vals W hW hw hd
                  try simp [Region.binds] at hd
                  refine ⟨by first | rfl | simp [Region.wanted, yielded, hd], ?_⟩
                  exact yields_mv (.tmp 5) rfl rfl
                · intro vals W hW hw hd
                  try simp [Region.binds] at hd
                  refine ⟨by first | rfl | simp [Region.wanted, yielded, hd], ?_⟩
                  exact yields_mv (.tmp 9) rfl rfl
                · intro vals W hW hw hd
                  try simp [Region.binds] at hd
                  refine ⟨by first | rfl | simp [Region.wanted, yielded, hd], ?_⟩
                  exact yields_mv (.tmp 5) rfl rfl
                · intro vals W hW hw hd
                  try simp [Region.binds] at hd
                  refine ⟨by first | rfl | simp [Region.wanted, yielded, hd], ?_⟩
                  exact yields_mv (.tmp 9) rfl rfl
                · intro vals W hW hw hd
                  try simp [Region.binds] at hd
                  refine ⟨by first | rfl | simp [Region.wanted, yielded, hd], ?_⟩
                  simp [go_sem, hd, a0, a1]
                  exact Below.refl _ _
                · intro vals W hW hw hd
                  try simp [Region.binds] at hd
                  refine ⟨by first | rfl | simp [Region.wanted, yielded, hd], ?_⟩
                  obtain ⟨ca, sa⟩ := C5.out W hW.out
                  simp [go_sem, hd, ca]
                  exact ⟨sa, Below.refl _ _⟩
                · intro vals W hW hw hd
                  try simp [Region.binds] at hd
                  refine ⟨by first | rfl | simp [Region.wanted, yielded, hd], ?_⟩
                  exact yields_mv (.tmp 5) rfl rfl
                · intro vals W hW hw hd
                  try simp [Region.binds] at hd
                  refine ⟨by first | rfl | simp [Region.wanted, yielded, hd], ?_⟩
                  exact yields_mv (.tmp 9) rfl rfl
                · intro vals W hW hw hd
                  try simp [Region.binds] at hd
                  refine ⟨by first | rfl | simp [Region.wanted, yielded, hd], ?_⟩
                  simp [go_sem, hd, wI1]
                  exact Below.refl _ _
                · intro vals W hW hw hd
                  try simp [Region.binds] at hd
                  refine ⟨by first | rfl | simp [Region.wanted, yielded, hd], ?_⟩
                  simp [go_sem, hd, r0, r1]
                  exact Below.refl _ _
                · intro vals W hW hw hd
                  try simp [Region.binds] at hd
                  refine ⟨by first | rfl | simp [Region.wanted, yielded, hd], ?_⟩
                  obtain ⟨ca, sa⟩ := C6.out W hW.out
                  simp [go_sem, hd, ca]
                  exact ⟨sa, Below.refl _ _⟩
                · intro vals W hW hw hd
                  try simp [Region.binds] at hd
                  refine ⟨by first | rfl | simp [Region.wanted, yielded, hd], ?_⟩
                  exact yields_call2 cfMl (.tmp 75) (.tmp 80) _ rfl _ _ rfl rfl ((M2.out _ _ W hd.1 hd.2).mono fun e w' ⟨⟨v', he, hs⟩, hb⟩ => ⟨v', he, hs, hb⟩)
                · intro vals W hW hw hd
                  try simp [Region.binds] at hd
                  refine ⟨by first | rfl | simp [Region.wanted, yielded, hd], ?_⟩
                  exact yields_mv (.tmp 11) rfl rfl
                · intro vals W hW hw hd
                  try simp [Region.binds] at hd
                  refine ⟨by first | rfl | simp [Region.wanted, yielded, hd], ?_⟩
                  exact yields_call2 cfTi (.tmp 81) (.tmp 82) _ rfl _ vo rfl (by first | exact hd | exact hd.1 | exact hd.2 | exact hd.2.1 | exact hd.2.2 | exact hd.2.2.1 | exact hd.2.2.2 | exact hd.2.2.2.1 | exact hd.2.2.2.2) ((TII.out _ _ W hd.1 (SOW.out W hW.out)).mono fun e w' ⟨⟨v', he, hs⟩, hb⟩ => ⟨v', he, hs, hb⟩)
                · intro vals W hW hw hd
                  try simp [Region.binds] at hd
                  refine ⟨by first | rfl | simp [Region.wanted, yielded, hd], ?_⟩
                  exact yields_call0 cfPr _ rfl ((PR.out W).mono fun e w' ⟨⟨v', he, hs⟩, hb⟩ => ⟨v', he, hs, hb⟩)
                · intro vals W hW hw hd
                  try simp [Region.binds] at hd
                  refine ⟨by first | rfl | simp [Region.wanted, yielded, hd], ?_⟩
                  exact yields_call2 cfRe (.tmp 83) (.tmp 84) _ rfl _ _ rfl rfl ((REI.out _ _ W hd.1 hd.2).mono fun e w' ⟨⟨v', he, hs⟩, hb⟩ => ⟨v', he, hs, hb⟩)
                · intro vals W hW hw hd
                  try simp [Region.binds] at hd
                  refine ⟨by first | rfl | simp [Region.wanted, yielded, hd], ?_⟩
                  simp [go_sem, hd, a0, a1]
                  exact Below.refl _ _
              obtain ⟨f0, f1, f2, f3, f4, f5, f6, f7, f8, f9, f10, f11, f12, f13, f14, f15, f16, _⟩ := hF
              simp only [MP.eq_p] at f0 f1 f2 f3 f4 f6 f7 f8 f9 f12 f16
              simp only [MP.sl_p] at f15
              obtain ⟨ax, cx, ex⟩ := f15.parts
              rw [ex] at f15 ⊢
              rw [f16]
              generalize (P.dg (E I K)).length = lx at f15 ⊢
              have SV10 : Hid (Sl w10 (.slice ax lx cx) (P.dg (E I K))) := f15
              have sq10 : Hid (Rw2 w10 (w.heap.size + 1) j (fun i => if I < i then E i (min i K) else E i (min i (K - 1))) [(w.heap.size, zz4)]) := sq9.out.up hb10.out
              have b10 : Hid (Below w.heap.size w w10) := b9.out.trans (hb10.out.mono b9.out.size)
              clear f0 f1 f2 f3 f4 f5 f6 f7 f8 f9 f10 f11 f12 f13 f14 f15 f16 hO hb10 sq9 b9 ex C5 C6 SOW M2 TII REI
              simp only [List.drop_succ_cons, List.drop_zero]
              obtain ⟨vq, cq, -⟩ := sq10.out.get I HI.out.2
              have zq := sq10.out.fz
              have s11 : Hid (Rw2 (w10.setCell ⟨w.heap.size + 1, I, none⟩ (.slice ax lx cx)) (w.heap.size + 1) j (fun i => if I1 < i then E i (min i K) else E i (min i (K - 1))) [(w.heap.size, zz4)]) := (sq10.out.set I HI.out.2 SV10.out).congr fun i _ => by
                have e1 := hI1.out
                have e2 := HI.out
                have e3 := HK1.out
                by_cases h1 : i = I
                · subst h1
                  rw [if_pos rfl, if_pos (by omega), Nat.min_eq_right e2.1]
                · rw [if_neg h1]
                  by_cases h2 : I < i
                  · rw [if_pos h2, if_pos (by omega)]
                  · rw [if_neg h2, if_neg (by omega)]
              have b11 : Hid (Below w.heap.size w (w10.setCell ⟨w.heap.size + 1, I, none⟩ (.slice ax lx cx))) := b10.out.setCell (p := ⟨w.heap.size + 1, I, none⟩) (Nat.le_succ _) _
              clear sq10 b10 SV10
              go_wp2_with fail
              go_roundw
              case rel => exact ⟨I1, by have := hI1.out; have := HI.out; omega, lI1.out, rfl, s11, b11⟩
              case measure => simp [intOf]; have := hI1.out; have := HI.out; have := HK1.out; omega
            · have i2 : ¬ (I : Int) ≥ (K : Int) := by omega
              have hIK : Hid (I = K - 1) := by show _ = _; omega
              have sB : Hid (Rw2 wr (w.heap.size + 1) j (fun i => E i (min i (K + 1 - 1))) [(w.heap.size, zz4)]) := sq.out.congr fun i _ => by
                rw [Nat.add_sub_cancel]
                by_cases h : I < i
                · rw [if_pos h]
                · rw [if_neg h, Nat.min_eq_left (by omega), Nat.min_eq_left (by omega)]
              have bB : Hid _ := bq
              clear sq bq hlt hI hI0
              go_wp2_with fail
              go_roundw
              case rel => exact ⟨K + 1, by omega, HK.out, by go_num, sB, bB⟩
              case measure => simp [intOf]; have := HK.out; omega
        · have i1 : ¬ (K : Int) < (j : Int) := by omega
          have sB : Hid (Rw2 wr (w.heap.size + 1) j (fun i => E i i) [(w.heap.size, zz4)]) := sk.out.congr fun i _ => by rw [Nat.min_eq_left (by omega)]
          have bB : Hid (Below w.heap.size w wr) := bk
          clear sk bk hlt hK hK1
          have S0 : Hid (Sl wr (.slice none 0 0) (P.dg (H (j - j)))) := by rw [Nat.sub_self, HZ.out, P.dg_zero]; exact .inl ⟨rfl, rfl⟩
          go_wp2_with fail
          go_loopw [12, 13] (fun y i wr => ∃ R : Nat, R ≤ j ∧ i = .int .i64 ((R : Int) - 1) ∧ Hid (Sl wr y (P.dg (H (j - R)))) ∧ Hid (Rw2 wr (w.heap.size + 1) j (fun i => E i i) [(w.heap.size, zz4)]) ∧ Hid (Below w.heap.size w wr)) (fun _ i _ => (intOf i + 1).toNat)
          case atStart => exact ⟨j, Nat.le_refl _, rfl, S0, sB, bB⟩
          case round =>
            clear S0 sB bB
            obtain ⟨R, hR, rfl, sy, sk, bk⟩ := hrel
            cases R with
            | zero =>
              rw [Nat.sub_zero] at sy
              have j0 : ¬ ((((0 : Nat) : Int)) - 1 ≥ 0) := by omega
              go_wp2_with fail
              refine (TN.out _ _ sy.out).mono ?_
              rintro e w3 ⟨rfl, hb3⟩
              have s3 : Hid (Kn w3 [(w.heap.size, zz4)]) := sk.out.kn.up hb3
              have b3 : Hid (Below w.heap.size w w3) := bk.out.trans (hb3.mono bk.out.size)
              clear hb3 sy sk bk
              have ur_0 : w3.cell? ⟨w.heap.size, 0, none⟩ = some (.int .u64 0) := Kn.get s3.out 0 0 rfl rfl
              have ur_1 : w3.cell? ⟨w.heap.size, 1, none⟩ = some (.int .u64 0) := Kn.get s3.out 0 1 rfl rfl
              have ur_2 : w3.cell? ⟨w.heap.size, 2, none⟩ = some (.int .u64 0) := Kn.get s3.out 0 2 rfl rfl
              have ur_3 : w3.cell? ⟨w.heap.size, 3, none⟩ = some (.int .u64 0) := Kn.get s3.out 0 3 rfl rfl
              have ur_z : ∀ j, w3.frozen? ⟨w.heap.size, j, none⟩ = false := Kn.fz s3.out 0 rfl
              have uro_0 : w3.cell? ⟨w.heap.size, 0, none⟩ = some (.int .u64 0) := Kn.get s3.out 0 0 rfl rfl
              have uro_1 : w3.cell? ⟨w.heap.size, 1, none⟩ = some (.int .u64 0) := Kn.get s3.out 0 1 rfl rfl
              have uro_2 : w3.cell? ⟨w.heap.size, 2, none⟩ = some (.int .u64 0) := Kn.get s3.out 0 2 rfl rfl
              have uro_3 : w3.cell? ⟨w.heap.size, 3, none⟩ = some (.int .u64 0) := Kn.get s3.out 0 3 rfl rfl
              have uro_z : ∀ j, w3.frozen? ⟨w.heap.size, j, none⟩ = false := Kn.fz s3.out 0 rfl
              have s4 : Hid (Kn (st4 w3 (w.heap.size) (c)) [(w.heap.size, (c4 (c)))]) := Kn.st4 (L := []) (s3.out.front 0 rfl) (c)
              have b4 : Hid (Below w.heap.size w (st4 w3 (w.heap.size) (c))) := below_st4 b3.out (by omega)
              clear s3 b3
              go_wp2_with fail
              clear ur_0 ur_1 ur_2 ur_3 ur_z uro_0 uro_1 uro_2 uro_3 uro_z
              have urr_0 : (st4 w3 (w.heap.size) (c)).cell? ⟨w.heap.size, 0, none⟩ = some (.int .u64 (c).a) := Kn.get s4.out 0 0 rfl rfl
              have urr_1 : (st4 w3 (w.heap.size) (c)).cell? ⟨w.heap.size, 1, none⟩ = some (.int .u64 (c).b) := Kn.get s4.out 0 1 rfl rfl
              have urr_2 : (st4 w3 (w.heap.size) (c)).cell? ⟨w.heap.size, 2, none⟩ = some (.int .u64 (c).c) := Kn.get s4.out 0 2 rfl rfl
              have urr_3 : (st4 w3 (w.heap.size) (c)).cell? ⟨w.heap.size, 3, none⟩ = some (.int .u64 (c).d) := Kn.get s4.out 0 3 rfl rfl
              refine bodyPost_ret (v := N c) ?_ rfl ⟨rfl, b4.out⟩
              show (results Try.f7 _).run Try.prog (st4 w3 (w.heap.size) (c)) = .ok _ (st4 w3 (w.heap.size) (c))
              clear s4 b4
              generalize (st4 w3 (w.heap.size) (c)) = W9 at *
              simp [results, Try.results7, go_sem, urr_0, urr_1, urr_2, urr_3]
            | succ R =>
              have e1 : ((R + 1 : Nat) : Int) - 1 = (R : Int) := by omega
              rw [e1]
              obtain ⟨m, hm⟩ : ∃ m, Hid (j - (R + 1) = m) := ⟨_, rfl⟩
              rw [hm.out] at sy
              have em : j - (m + 1) = R := by have := hm.out; omega
              have lm : m < j := by have := hm.out; omega
              have M3 : Hid _ := ML3.out R (by omega)
              have T3 := TI3.out m lm
              have P3 := PL3.out m lm
              rw [em] at T3 P3
              have T3 : Hid _ := T3
              have P3 : Hid _ := P3
              have R3 : Hid _ := RE3.out m lm
              have lR : Hid (R < j) := by show _ < _; omega
              have HM : Hid (m + 1 = j - R) := by have := hm.out; show _ = _; omega
              have a0 : (0 : Int) ≤ (R : Int) := by omega
              have a1 : (R : Int) < (j : Int) := by omega
              have j0 : (R : Int) ≥ 0 := a0
              have wR : IntKind.i64.wrap ((R : Int) - 1) = (R : Int) - 1 := by rw [IntKind.wrap_i64]; have := N20.out; omega
              have xR := XL.out R
              have xx := HX.out
              obtain ⟨v5, cv5, sv5⟩ := sk.out.get R lR.out
              have C5 : Hid (∀ W, Below wr.heap.size wr W → W.cell? ⟨w.heap.size + 1, R, none⟩ = some v5 ∧ Sl W v5 (P.dg (E R R))) := fun W hW => ⟨(hW.cell (p := ⟨w.heap.size + 1, R, none⟩) (lt_of_cell cv5)).trans cv5, Sl.up sv5 hW⟩
              clear e1 hR em lm cv5 sv5 hm
              go_wp2_with fail
              refine wp_region_monoE [MP.sl (P.dg (H m)), MP.eq (.int .i64 (x : Int)), MP.eq (.int .u64 (x : Int)), MP.u1 x, MP.sl (P.dg x), MP.eq (.slice (some ⟨b, o, none⟩) j cp), MP.eq (.int .i64 (R : Int)), MP.eq (.pointer (some ⟨b, o + R * 5, none⟩)), MP.eq (.pointer (some ⟨b, o + R * 5, none⟩)), MP.eq (.int .i64 (X R : Int)), MP.eq (.int .u64 (X R : Int)), MP.u1 (X R), MP.sl (P.dg (X R)), MP.sl (P.dg (DX R)), MP.sl (P.dg (TH m)), MP.eq (.slice (some ⟨w.heap.size + 1, 0, none⟩) j j), MP.eq (.int .i64 (R : Int)), MP.eq (.pointer (some ⟨w.heap.size + 1, R, none⟩)), MP.sl (P.dg (E R R)), MP.sl (P.dg (PH m)), MP.sl (P.dg O), MP.sl (P.dg (H (m + 1))), MP.sl (P.dg (H (m + 1)))] (by kernel_rfl) (by kernel_rfl) rfl ?_
              apply Exists.intro
              refine ⟨fun vals => ?_, ?_, fun vals3 w3 hb3 hF => ?_⟩
              · simp only [putsV, dstL, List.length_cons, List.length_nil, Nat.zero_add, Nat.reduceAdd, List.getElem?_cons_zero, List.getElem?_cons_succ, Option.bind_some, Act.put, List.setIfInBounds_toArray, List.set_cons_succ, List.set_cons_zero]
                rfl
              · refine ⟨?_, ?_, ?_, ?_, ?_, ?_, ?_, ?_, ?_, ?_, ?_, ?_, ?_, ?_, ?_, ?_, ?_, ?_, ?_, ?_, ?_, ?_, ?_, trivial⟩
                · intro vals W hW hw hd
                  try simp [Region.binds] at hd
                  refine ⟨by first | rfl | simp [Region.wanted, yielded, hd], ?_⟩
                  have h9 : vals 22 = u12 := (hw.out 22 (by kernel_rfl)).trans rfl
                  simp [go_sem, h9]
                  exact ⟨Sl.up (xs := P.dg (H m)) sy.out hW.out, Below.refl _ _⟩
                · intro vals W hW hw hd
                  try simp [Region.binds] at hd
                  refine ⟨by first | rfl | simp [Region.wanted, yielded, hd], ?_⟩
                  exact yields_mv (.tmp 1) rfl rfl
                · intro vals W hW hw hd
                  try simp [Region.binds] at hd
                  refine ⟨by first | rfl | simp [Region.wanted, yielded, hd], ?_⟩
                  simp [go_sem, hd]
                  exact ⟨by rw [IntKind.wrap_u64]; omega, Below.refl _ _⟩
                · intro vals W hW hw hd
                  try simp [Region.binds] at hd
                  refine ⟨by first | rfl | simp [Region.wanted, yielded, hd], ?_⟩
                  exact yields_u1 _ rfl (by simpa using hd)
                · intro vals W hW hw hd
                  try simp [Region.binds] at hd
                  refine ⟨by first | rfl | simp [Region.wanted, yielded, hd], ?_⟩
                  obtain ⟨b9, e9, h9⟩ := hd
                  exact yields_call1 cfDig (.tmp 97) _ rfl _ (by exact e9) ((digits_one _ b9 (Nat.lt_trans xx (by decide)) W h9).mono fun e w' ⟨⟨v', he, hs⟩, hb⟩ => ⟨v', he, hs, hb⟩)
                · intro vals W hW hw hd
                  try simp [Region.binds] at hd
                  refine ⟨by first | rfl | simp [Region.wanted, yielded, hd], ?_⟩
                  exact yields_mv (.tmp 0) rfl rfl
                · intro vals W hW hw hd
                  try simp [Region.binds] at hd
                  refine ⟨by first | rfl | simp [Region.wanted, yielded, hd], ?_⟩
                  exact yields_mv (.tmp 13) rfl rfl
                · intro vals W hW hw hd
                  try simp [Region.binds] at hd
                  refine ⟨by first | rfl | simp [Region.wanted, yielded, hd], ?_⟩
                  simp [go_sem, hd, a0, a1]
                  exact Below.refl _ _
                · intro vals W hW hw hd
                  try simp [Region.binds] at hd
                  refine ⟨by first | rfl | simp [Region.wanted, yielded, hd], ?_⟩
                  simp [go_sem, hd]
                  exact Below.refl _ _
                · intro vals W hW hw hd
                  try simp [Region.binds] at hd
                  refine ⟨by first | rfl | simp [Region.wanted, yielded, hd], ?_⟩
                  have ca := CX.out W (bk.out.trans (hW.out.mono bk.out.size)) R lR.out
                  simp [go_sem, hd, ca]
                  exact Below.refl _ _
                · intro vals W hW hw hd
                  try simp [Region.binds] at hd
                  refine ⟨by first | rfl | simp [Region.wanted, yielded, hd], ?_⟩
                  simp [go_sem, hd]
                  exact ⟨by rw [IntKind.wrap_u64]; omega, Below.refl _ _⟩
                · intro vals W hW hw hd
                  try simp [Region.binds] at hd
                  refine ⟨by first | rfl | simp [Region.wanted, yielded, hd], ?_⟩
                  exact yields_u1 _ rfl (by simpa using hd)
                · intro vals W hW hw hd
                  try simp [Region.binds] at hd
                  refine ⟨by first | rfl | simp [Region.wanted, yielded, hd], ?_⟩
                  obtain ⟨⟨b9, e9, h9⟩, -⟩ := hd
                  exact yields_call1 cfDig (.tmp 105) _ rfl _ (by exact e9) ((digits_one _ b9 (Nat.lt_trans xR (by decide)) W h9).mono fun e w' ⟨⟨v', he, hs⟩, hb⟩ => ⟨v', he, hs, hb⟩)
                · intro vals W hW hw hd
                  try simp [Region.binds] at hd
                  refine ⟨by first | rfl | simp [Region.wanted, yielded, hd], ?_⟩
                  exact yields_call2 cfMl (.tmp 98) (.tmp 106) _ rfl _ _ rfl rfl ((M3.out _ _ W hd.1 hd.2).mono fun e w' ⟨⟨v', he, hs⟩, hb⟩ => ⟨v', he, hs, hb⟩)
                · intro vals W hW hw hd
                  try simp [Region.binds] at hd
                  refine ⟨by first | rfl | simp [Region.wanted, yielded, hd], ?_⟩
                  exact yields_call2 cfTi (.tmp 94) (.tmp 107) _ rfl _ _ rfl rfl ((T3.out _ _ W hd.1 hd.2).mono fun e w' ⟨⟨v', he, hs⟩, hb⟩ => ⟨v', he, hs, hb⟩)
                · intro vals W hW hw hd
                  try simp [Region.binds] at hd
                  refine ⟨by first | rfl | simp [Region.wanted, yielded, hd], ?_⟩
                  exact yields_mv (.tmp 5) rfl rfl
                · intro vals W hW hw hd
                  try simp [Region.binds] at hd
                  refine ⟨by first | rfl | simp [Region.wanted, yielded, hd], ?_⟩
                  exact yields_mv (.tmp 13) rfl rfl
                · intro vals W hW hw hd
                  try simp [Region.binds] at hd
                  refine ⟨by first | rfl | simp [Region.wanted, yielded, hd], ?_⟩
                  simp [go_sem, hd, a0, a1]
                  exact Below.refl _ _
                · intro vals W hW hw hd
                  try simp [Region.binds] at hd
                  refine ⟨by first | rfl | simp [Region.wanted, yielded, hd], ?_⟩
                  obtain ⟨ca, sa⟩ := C5.out W hW.out
                  simp [go_sem, hd, ca]
                  exact ⟨sa, Below.refl _ _⟩
                · intro vals W hW hw hd
                  try simp [Region.binds] at hd
                  refine ⟨by first | rfl | simp [Region.wanted, yielded, hd], ?_⟩
                  exact yields_call2 cfPl (.tmp 108) (.tmp 112) _ rfl _ _ rfl rfl ((P3.out _ _ W hd.1 hd.2.1).mono fun e w' ⟨⟨v', he, hs⟩, hb⟩ => ⟨v', he, hs, hb⟩)
                · intro vals W hW hw hd
                  try simp [Region.binds] at hd
                  refine ⟨by first | rfl | simp [Region.wanted, yielded, hd], ?_⟩
                  exact yields_call0 cfPr _ rfl ((PR.out W).mono fun e w' ⟨⟨v', he, hs⟩, hb⟩ => ⟨v', he, hs, hb⟩)
                · intro vals W hW hw hd
                  try simp [Region.binds] at hd
                  refine ⟨by first | rfl | simp [Region.wanted, yielded, hd], ?_⟩
                  exact yields_call2 cfRe (.tmp 113) (.tmp 114) _ rfl _ _ rfl rfl ((R3.out _ _ W hd.1 hd.2).mono fun e w' ⟨⟨v', he, hs⟩, hb⟩ => ⟨v', he, hs, hb⟩)
                · intro vals W hW hw hd
                  try simp [Region.binds] at hd
                  refine ⟨by first | rfl | simp [Region.wanted, yielded, hd], ?_⟩
                  simp [go_sem]
                  exact ⟨by simp [hd], Below.refl _ _⟩
              obtain ⟨f0, f1, f2, f3, f4, f5, f6, f7, f8, f9, f10, f11, f12, f13, f14, f15, f16, f17, f18, f19, f20, f21, f22, _⟩ := hF
              simp only [MP.eq_p] at f1 f2 f5 f6 f7 f8 f9 f10 f15 f16 f17
              simp only [MP.sl_p] at f22
              have S3 : Hid (Sl w3 (vals3 22) (P.dg (H (j - R)))) := by rw [← HM.out]; exact f22
              have s3 : Hid (Rw2 w3 (w.heap.size + 1) j (fun i => E i i) [(w.heap.size, zz4)]) := sk.out.up hb3.out
              have b3 : Hid (Below w.heap.size w w3) := bk.out.trans (hb3.out.mono bk.out.size)
              clear f0 f1 f2 f3 f4 f5 f6 f7 f8 f9 f10 f11 f12 f13 f14 f15 f16 f17 f18 f19 f20 f21 f22 hb3 sk bk sy C5 M3 T3 P3 R3
              go_wp2_with fail
              go_roundw
              case rel => exact ⟨R, Nat.le_of_lt lR.out, by first | rfl | go_num, S3, s3, b3⟩
              case measure => simp [intOf]
end Go.Proofs.Ytdcpicbkemmakaa
