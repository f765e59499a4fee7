/- The contract of mac.fit: a key, fit to a block. -/
import Derived.Test.YtdcpicbkemmakaaDoorQHHashToMacM
import Derived.Test.YtdcpicbkemmakaaDoorQUpMToUpS
namespace Go.Proofs.YtdcpicbkemmakaaDoor
open Go.RowKit
set_option linter.unusedSimpArgs false
attribute [local go_sem] YieldsP execOp
attribute [local simp] MP.eq_p
theorem fitS_long {k : List Nat} (h : 64 < k.length) : fitS k = sumS k ++ List.replicate 32 0 := by rw [fitS, if_pos h]
theorem fitS_short {k : List Nat} (h : ¬ 64 < k.length) : fitS k = k ++ List.replicate (64 - k.length) 0 := by rw [fitS, if_neg h]
/-- copy of bytes, also of none, into a range that may be written. -/
theorem wp_copyN {ops : Array Oper} {rest : List Oper} {o : Oper} {act : Act} {Q : Exit → Act → World → Prop} {w : World} (hgd : o.guard = none) (d s : Operand)
    (ho : o.op = .call { callee := .builtin .copy, args := #[d, s], argTypes := #[25, 25] }) (b f dl dc : Nat) (u : Value) (xs : List Nat) (hd : act.eval d = .slice (some ⟨b, f, none⟩) dl dc) (hs : act.eval s = u) (hb : By w u xs)
    (ht : w.there b f (min xs.length dl))
    (h : ∀ w2, Hid (w2 = w.setCells b f ((xs.take dl).map b8)) → wpList Tryd.prog ops Q rest (act.put o.dst (.int .i64 ((min xs.length dl : Nat) : Int))) w2) : wpList Tryd.prog ops Q (o :: rest) act w := by
  rcases Nat.eq_zero_or_pos xs.length with h0 | h0
  · obtain rfl := List.length_eq_zero_iff.1 h0
    obtain ⟨a, c, rfl, _⟩ := hb
    refine wpList_plain hgd fun K hK => ?_
    have hrun := run_copy_none (P := Tryd.prog) w 25 25 o.type 5 (some ⟨b, f, none⟩) a dl dc 0 c Tryd.uBytes info_u8 (Nat.zero_min _)
    unfold Oper.wp
    simp [execOp, ho, resolve, invoke, builtin, hd, hs, hrun, Result.andThen]
    have hw : w = w.setCells b f (List.map b8 (List.take dl [])) := by rw [List.take_nil]; rfl
    have := h w hw
    simp at this
    exact hK _ _ this
  · exact wp_copyB hgd d s ho b f dl dc u xs hd hs hb h0 ht h
/-- Bytes copied into a block of bytes 0. -/
theorem Blk.fit {w : World} {k : Nat} {xs : List Nat} (h : Blk w k ((List.replicate 64 0).map b8)) (hx : xs.length ≤ 64) : Blk (w.setCells k 0 (xs.map b8)) k ((xs ++ List.replicate (64 - xs.length) 0).map b8) := by
  have e : (List.replicate 64 0).map b8 = [] ++ ((List.replicate xs.length 0).map b8 ++ (List.replicate (64 - xs.length) 0).map b8) := by
    rw [List.nil_append, ← List.map_append, List.replicate_append_replicate]
    congr 2
    omega
  rw [e] at h
  have := h.store (o := 0) (b' := xs.map b8) rfl (by simp)
  rw [List.map_append]
  exact this
set_option maxRecDepth 20000 in
set_option maxHeartbeats 2000000 in
theorem fit_fun (key : List Nat) (lk : ∀ x ∈ key, x < 256) (zk : key.length ≤ 9223372036854775807) (v : Value) (w : World) (hv : By w v key) (hT : KTab w) :
    Calls Tryd.prog 75 #[v] w fun e w' => e = .returned (vB (fitS key)) ∧ Below w.heap.size w w' := by
  obtain ⟨av, cv, rfl, ln, lz, lc⟩ := id hv
  have HV : Hid (By w (.slice av key.length cv) key) := hv
  have HS : Hid _ := hsum_fun key lk zk
  have FL : Hid _ := fitS_length key
  have FI : Hid _ := info_blk.trans (congrArg some (show 64 = ((fitS key).map b8).length by rw [List.length_map, fitS_length]))
  have ID : Hid _ := info_d32.trans (congrArg some (show 32 = ((sumS key).map b8).length by rw [List.length_map, sumS_length]))
  have SL : Hid _ := sumS_length key
  have HT : Hid (KTab w) := hT
  have SB : Hid (∀ k W, _) := fun k W => slice_all u_blk info_u8 (by decide) k 0 W
  have SD : Hid (∀ k W, _) := fun k W => slice_all u_d32 info_u8 (by decide) k 0 W
  obtain ⟨x0, x1, x2⟩ := al2 w #[Value.int IntKind.u8 0, Value.int IntKind.u8 0, Value.int IntKind.u8 0, Value.int IntKind.u8 0, Value.int IntKind.u8 0, Value.int IntKind.u8 0, Value.int IntKind.u8 0, Value.int IntKind.u8 0, Value.int IntKind.u8 0, Value.int IntKind.u8 0, Value.int IntKind.u8 0, Value.int IntKind.u8 0, Value.int IntKind.u8 0, Value.int IntKind.u8 0, Value.int IntKind.u8 0, Value.int IntKind.u8 0, Value.int IntKind.u8 0, Value.int IntKind.u8 0, Value.int IntKind.u8 0, Value.int IntKind.u8 0, Value.int IntKind.u8 0, Value.int IntKind.u8 0, Value.int IntKind.u8 0, Value.int IntKind.u8 0, Value.int IntKind.u8 0, Value.int IntKind.u8 0, Value.int IntKind.u8 0, Value.int IntKind.u8 0, Value.int IntKind.u8 0, Value.int IntKind.u8 0, Value.int IntKind.u8 0, Value.int IntKind.u8 0, Value.int IntKind.u8 0, Value.int IntKind.u8 0, Value.int IntKind.u8 0, Value.int IntKind.u8 0, Value.int IntKind.u8 0, Value.int IntKind.u8 0, Value.int IntKind.u8 0, Value.int IntKind.u8 0, Value.int IntKind.u8 0, Value.int IntKind.u8 0, Value.int IntKind.u8 0, Value.int IntKind.u8 0, Value.int IntKind.u8 0, Value.int IntKind.u8 0, Value.int IntKind.u8 0, Value.int IntKind.u8 0, Value.int IntKind.u8 0, Value.int IntKind.u8 0, Value.int IntKind.u8 0, Value.int IntKind.u8 0, Value.int IntKind.u8 0, Value.int IntKind.u8 0, Value.int IntKind.u8 0, Value.int IntKind.u8 0, Value.int IntKind.u8 0, Value.int IntKind.u8 0, Value.int IntKind.u8 0, Value.int IntKind.u8 0, Value.int IntKind.u8 0, Value.int IntKind.u8 0, Value.int IntKind.u8 0, Value.int IntKind.u8 0] #[Value.int IntKind.u8 0, Value.int IntKind.u8 0, Value.int IntKind.u8 0, Value.int IntKind.u8 0, Value.int IntKind.u8 0, Value.int IntKind.u8 0, Value.int IntKind.u8 0, Value.int IntKind.u8 0, Value.int IntKind.u8 0, Value.int IntKind.u8 0, Value.int IntKind.u8 0, Value.int IntKind.u8 0, Value.int IntKind.u8 0, Value.int IntKind.u8 0, Value.int IntKind.u8 0, Value.int IntKind.u8 0, Value.int IntKind.u8 0, Value.int IntKind.u8 0, Value.int IntKind.u8 0, Value.int IntKind.u8 0, Value.int IntKind.u8 0, Value.int IntKind.u8 0, Value.int IntKind.u8 0, Value.int IntKind.u8 0, Value.int IntKind.u8 0, Value.int IntKind.u8 0, Value.int IntKind.u8 0, Value.int IntKind.u8 0, Value.int IntKind.u8 0, Value.int IntKind.u8 0, Value.int IntKind.u8 0, Value.int IntKind.u8 0, Value.int IntKind.u8 0, Value.int IntKind.u8 0, Value.int IntKind.u8 0, Value.int IntKind.u8 0, Value.int IntKind.u8 0, Value.int IntKind.u8 0, Value.int IntKind.u8 0, Value.int IntKind.u8 0, Value.int IntKind.u8 0, Value.int IntKind.u8 0, Value.int IntKind.u8 0, Value.int IntKind.u8 0, Value.int IntKind.u8 0, Value.int IntKind.u8 0, Value.int IntKind.u8 0, Value.int IntKind.u8 0, Value.int IntKind.u8 0, Value.int IntKind.u8 0, Value.int IntKind.u8 0, Value.int IntKind.u8 0, Value.int IntKind.u8 0, Value.int IntKind.u8 0, Value.int IntKind.u8 0, Value.int IntKind.u8 0, Value.int IntKind.u8 0, Value.int IntKind.u8 0, Value.int IntKind.u8 0, Value.int IntKind.u8 0, Value.int IntKind.u8 0, Value.int IntKind.u8 0, Value.int IntKind.u8 0, Value.int IntKind.u8 0] 100 100
  have Y0 : Hid (Blk _ _ ((List.replicate 64 0).map b8)) := x0
  have Y1 : Hid (Blk _ _ ((List.replicate 64 0).map b8)) := x1
  have Y2 : Hid (Below _ _ _) := x2
  by_cases h64 : 64 < key.length
  · have FE : Hid _ := fitS_long h64
    have i64 : (64 : Int) < (key.length : Int) := by omega
    clear hT hv lk x0 x1 x2 ln lz lc
    generalize hm : key.length = m at *
    go_enter Tryd.func75, Tryd.ntmps75
    go_wp2_with fail
    generalize (w.alloc (Obj.cells #[Value.int IntKind.u8 0, Value.int IntKind.u8 0, Value.int IntKind.u8 0, Value.int IntKind.u8 0, Value.int IntKind.u8 0, Value.int IntKind.u8 0, Value.int IntKind.u8 0, Value.int IntKind.u8 0, Value.int IntKind.u8 0, Value.int IntKind.u8 0, Value.int IntKind.u8 0, Value.int IntKind.u8 0, Value.int IntKind.u8 0, Value.int IntKind.u8 0, Value.int IntKind.u8 0, Value.int IntKind.u8 0, Value.int IntKind.u8 0, Value.int IntKind.u8 0, Value.int IntKind.u8 0, Value.int IntKind.u8 0, Value.int IntKind.u8 0, Value.int IntKind.u8 0, Value.int IntKind.u8 0, Value.int IntKind.u8 0, Value.int IntKind.u8 0, Value.int IntKind.u8 0, Value.int IntKind.u8 0, Value.int IntKind.u8 0, Value.int IntKind.u8 0, Value.int IntKind.u8 0, Value.int IntKind.u8 0, Value.int IntKind.u8 0, Value.int IntKind.u8 0, Value.int IntKind.u8 0, Value.int IntKind.u8 0, Value.int IntKind.u8 0, Value.int IntKind.u8 0, Value.int IntKind.u8 0, Value.int IntKind.u8 0, Value.int IntKind.u8 0, Value.int IntKind.u8 0, Value.int IntKind.u8 0, Value.int IntKind.u8 0, Value.int IntKind.u8 0, Value.int IntKind.u8 0, Value.int IntKind.u8 0, Value.int IntKind.u8 0, Value.int IntKind.u8 0, Value.int IntKind.u8 0, Value.int IntKind.u8 0, Value.int IntKind.u8 0, Value.int IntKind.u8 0, Value.int IntKind.u8 0, Value.int IntKind.u8 0, Value.int IntKind.u8 0, Value.int IntKind.u8 0, Value.int IntKind.u8 0, Value.int IntKind.u8 0, Value.int IntKind.u8 0, Value.int IntKind.u8 0, Value.int IntKind.u8 0, Value.int IntKind.u8 0, Value.int IntKind.u8 0, Value.int IntKind.u8 0] 100)).alloc (Obj.cells #[Value.int IntKind.u8 0, Value.int IntKind.u8 0, Value.int IntKind.u8 0, Value.int IntKind.u8 0, Value.int IntKind.u8 0, Value.int IntKind.u8 0, Value.int IntKind.u8 0, Value.int IntKind.u8 0, Value.int IntKind.u8 0, Value.int IntKind.u8 0, Value.int IntKind.u8 0, Value.int IntKind.u8 0, Value.int IntKind.u8 0, Value.int IntKind.u8 0, Value.int IntKind.u8 0, Value.int IntKind.u8 0, Value.int IntKind.u8 0, Value.int IntKind.u8 0, Value.int IntKind.u8 0, Value.int IntKind.u8 0, Value.int IntKind.u8 0, Value.int IntKind.u8 0, Value.int IntKind.u8 0, Value.int IntKind.u8 0, Value.int IntKind.u8 0, Value.int IntKind.u8 0, Value.int IntKind.u8 0, Value.int IntKind.u8 0, Value.int IntKind.u8 0, Value.int IntKind.u8 0, Value.int IntKind.u8 0, Value.int IntKind.u8 0, Value.int IntKind.u8 0, Value.int IntKind.u8 0, Value.int IntKind.u8 0, Value.int IntKind.u8 0, Value.int IntKind.u8 0, Value.int IntKind.u8 0, Value.int IntKind.u8 0, Value.int IntKind.u8 0, Value.int IntKind.u8 0, Value.int IntKind.u8 0, Value.int IntKind.u8 0, Value.int IntKind.u8 0, Value.int IntKind.u8 0, Value.int IntKind.u8 0, Value.int IntKind.u8 0, Value.int IntKind.u8 0, Value.int IntKind.u8 0, Value.int IntKind.u8 0, Value.int IntKind.u8 0, Value.int IntKind.u8 0, Value.int IntKind.u8 0, Value.int IntKind.u8 0, Value.int IntKind.u8 0, Value.int IntKind.u8 0, Value.int IntKind.u8 0, Value.int IntKind.u8 0, Value.int IntKind.u8 0, Value.int IntKind.u8 0, Value.int IntKind.u8 0, Value.int IntKind.u8 0, Value.int IntKind.u8 0, Value.int IntKind.u8 0] 100) = w1 at *
    refine (HS.out _ w1 (HV.out.up Y2.out (Nat.le_refl _)) (HT.out.up Y2.out HT.out.pos)).mono ?_
    rintro e w2 ⟨rfl, h2⟩
    have D2 : Hid (Below w.heap.size w w2) := Y2.out.trans (h2.mono Y2.out.size)
    have Z0 : Hid (Blk w2 w.heap.size ((List.replicate 64 0).map b8)) := Y0.out.up h2 Y0.out.lt
    have Z1 : Hid (Blk w2 (w.heap.size + 1) ((List.replicate 64 0).map b8)) := Y1.out.up h2 Y1.out.lt
    clear h2 Y0 Y1 Y2 HS HV
    have T1 : Hid (∀ C t, C.size = 32 → World.there (w2.alloc (.cells C t)) w2.heap.size 0 ((sumS key).map b8).length) := fun C t hC => (al1 w2 C t).1.there (by rw [List.length_map, SL.out, Array.length_toList, hC]; omega)
    go_wp2_with (refine wp_store_eq rfl 109 (.tmp 4) (.tmp 9) rfl w2.heap.size 0 ((sumS key).map b8) rfl rfl (T1.out _ _ rfl) ID.out (one_b8 _) ?_)
    intro w3 hw3
    obtain ⟨b2, h2⟩ : Blk w3 w2.heap.size ((sumS key).map b8) ∧ Below w2.heap.size w2 w3 := by
      rw [hw3.out]
      exact alst w2 _ _ _ (by rw [List.length_map, SL.out]; rfl)
    have D3 : Hid (Below w.heap.size w w3) := D2.out.trans (h2.mono D2.out.size)
    have A0 : Hid (Blk w3 w.heap.size ((List.replicate 64 0).map b8)) := Z0.out.up h2 Z0.out.lt
    have A1 : Hid (Blk w3 (w.heap.size + 1) ((List.replicate 64 0).map b8)) := Z1.out.up h2 Z1.out.lt
    have A2 : Hid (Blk w3 w2.heap.size ((sumS key).map b8)) := b2
    clear b2 h2 hw3 T1 Z0 Z1 D2
    generalize w2.heap.size = g2 at *
    have BX : Hid (By w3 (.slice (some ⟨g2, 0, none⟩) 32 32) (sumS key)) := By.of_blk A2.out SL.out
    have TC : Hid (w3.there (w.heap.size + 1) 0 (min (sumS key).length 64)) := A1.out.there (by rw [SL.out]; simp)
    go_wp2_with fail
    refine wp_region_monoSE 2 [MP.eq (.slice (some ⟨w.heap.size + 1, 0, none⟩) 64 64), MP.eq (.slice (some ⟨g2, 0, none⟩) 32 32)] (by kernel_rfl) (by kernel_rfl) rfl (by decide) (by kernel_rfl) ?_
    apply Exists.intro
    refine ⟨fun vals => ?_, ?_, fun vals4 w4 hb4 hF hO => ?_⟩
    · simp only [putsV, dstL, List.length_cons, List.length_nil, Nat.zero_add, Nat.reduceAdd, List.getElem?_cons_zero, List.getElem?_cons_succ, Option.bind_some, Act.put, List.setIfInBounds_toArray, List.set_cons_succ, List.set_cons_zero]
      rfl
    · refine ⟨?_, ?_, trivial⟩
      · intro vals W hW hw hd
        try simp [Region.binds] at hd
        refine ⟨by first | rfl | simp [Region.wanted, yielded, hd], ?_⟩
        simp [go_sem, hd, SB.out (w.heap.size + 1) W]
        exact Below.refl _ _
      · intro vals W hW hw hd
        try simp [Region.binds] at hd
        refine ⟨by first | rfl | simp [Region.wanted, yielded, hd], ?_⟩
        simp [go_sem, hd, SD.out g2 W]
        exact Below.refl _ _
    obtain ⟨f0, f1, _⟩ := hF
    simp only [MP.eq_p] at f0 f1
    rw [f0, f1]
    simp only [List.drop_succ_cons, List.drop_zero]
    have D4 : Hid (Below w.heap.size w w4) := D3.out.trans (hb4.out.mono D3.out.size)
    have C0 : Hid (Blk w4 w.heap.size ((List.replicate 64 0).map b8)) := A0.out.up hb4.out A0.out.lt
    have C1 : Hid (Blk w4 (w.heap.size + 1) ((List.replicate 64 0).map b8)) := A1.out.up hb4.out A1.out.lt
    have BY : Hid (By w4 _ (sumS key)) := BX.out.up hb4.out (Nat.le_refl _)
    have TC : Hid (w4.there (w.heap.size + 1) 0 (min (sumS key).length 64)) := C1.out.there (by rw [SL.out]; simp)
    have TK : Hid (((sumS key).map b8).take 64 = (sumS key).map b8) := List.take_of_length_le (by rw [List.length_map, SL.out]; decide)
    generalize vals4 2 = v12
    clear f0 f1 hb4 hO A0 A1 A2 BX D3 SB SD
    go_wp2_with (refine wp_copyN rfl (.tmp 10) (.tmp 11) rfl (w.heap.size + 1) 0 64 64 (.slice (some ⟨g2, 0, none⟩) 32 32) (sumS key) rfl rfl BY.out TC.out ?_)
    intro w6 hw6
    have B2 : Hid (Blk w6 (w.heap.size + 1) ((fitS key).map b8)) := by
      have hc := C1.out.fit (xs := sumS key) (by rw [SL.out]; decide)
      rw [SL.out] at hc
      have hw7 := hw6.out
      rw [TK.out] at hw7
      rw [hw7, FE.out]
      exact hc
    have A2 : Hid (Blk w6 w.heap.size ((List.replicate 64 0).map b8)) := by
      rw [hw6.out]
      exact C0.out.apart (by omega)
    have D6 : Hid (Below w.heap.size w w6) := by
      rw [hw6.out]
      exact below_setCells _ _ _ D4.out (by omega)
    clear hw6 C0 C1 D4 TC BY
    have TT : Hid (w6.there w.heap.size 0 ((fitS key).map b8).length) := A2.out.there (by rw [List.length_map, FL.out]; simp)
    go_wp2_with (first | refine wpList_load_mid rfl 100 (.tmp 3) rfl (w.heap.size + 1) 0 rfl ((fitS key).map b8) _ B2.out.all u_blk rfl FI.out ?_ | refine wp_store_eq rfl 100 (.tmp 2) (.tmp 13) rfl w.heap.size 0 ((fitS key).map b8) rfl rfl TT.out FI.out (one_b8 _) ?_)
    intro w5 hw5
    go_wp2_with fail
    refine bodyPost_ret (v := vB (fitS key)) ?_ rfl ⟨rfl, ?_⟩
    · rw [hw5.out]
      exact results_cell (b := w.heap.size) rfl rfl (World.rangeAt_setCells_same _ _ _ _ TT.out) u_blk rfl FI.out
    · rw [hw5.out]
      exact below_setCells _ _ _ D6.out (Nat.le_refl _)
  · have FE : Hid _ := fitS_short h64
    have i64 : ¬ (64 : Int) < (key.length : Int) := by omega
    have k64 : key.length ≤ 64 := by omega
    clear hT hv lk x0 x1 x2 ln lz lc HS
    have TK : Hid ((key.map b8).take 64 = key.map b8) := List.take_of_length_le (by rw [List.length_map]; exact k64)
    have HK : Hid (key.length ≤ 64) := k64
    clear k64
    generalize hm : key.length = m at *
    have HM : Hid _ := hm
    clear hm
    go_enter Tryd.func75, Tryd.ntmps75
    have TC : Hid (World.there ((w.alloc (Obj.cells #[Value.int IntKind.u8 0, Value.int IntKind.u8 0, Value.int IntKind.u8 0, Value.int IntKind.u8 0, Value.int IntKind.u8 0, Value.int IntKind.u8 0, Value.int IntKind.u8 0, Value.int IntKind.u8 0, Value.int IntKind.u8 0, Value.int IntKind.u8 0, Value.int IntKind.u8 0, Value.int IntKind.u8 0, Value.int IntKind.u8 0, Value.int IntKind.u8 0, Value.int IntKind.u8 0, Value.int IntKind.u8 0, Value.int IntKind.u8 0, Value.int IntKind.u8 0, Value.int IntKind.u8 0, Value.int IntKind.u8 0, Value.int IntKind.u8 0, Value.int IntKind.u8 0, Value.int IntKind.u8 0, Value.int IntKind.u8 0, Value.int IntKind.u8 0, Value.int IntKind.u8 0, Value.int IntKind.u8 0, Value.int IntKind.u8 0, Value.int IntKind.u8 0, Value.int IntKind.u8 0, Value.int IntKind.u8 0, Value.int IntKind.u8 0, Value.int IntKind.u8 0, Value.int IntKind.u8 0, Value.int IntKind.u8 0, Value.int IntKind.u8 0, Value.int IntKind.u8 0, Value.int IntKind.u8 0, Value.int IntKind.u8 0, Value.int IntKind.u8 0, Value.int IntKind.u8 0, Value.int IntKind.u8 0, Value.int IntKind.u8 0, Value.int IntKind.u8 0, Value.int IntKind.u8 0, Value.int IntKind.u8 0, Value.int IntKind.u8 0, Value.int IntKind.u8 0, Value.int IntKind.u8 0, Value.int IntKind.u8 0, Value.int IntKind.u8 0, Value.int IntKind.u8 0, Value.int IntKind.u8 0, Value.int IntKind.u8 0, Value.int IntKind.u8 0, Value.int IntKind.u8 0, Value.int IntKind.u8 0, Value.int IntKind.u8 0, Value.int IntKind.u8 0, Value.int IntKind.u8 0, Value.int IntKind.u8 0, Value.int IntKind.u8 0, Value.int IntKind.u8 0, Value.int IntKind.u8 0] 100)).alloc (Obj.cells #[Value.int IntKind.u8 0, Value.int IntKind.u8 0, Value.int IntKind.u8 0, Value.int IntKind.u8 0, Value.int IntKind.u8 0, Value.int IntKind.u8 0, Value.int IntKind.u8 0, Value.int IntKind.u8 0, Value.int IntKind.u8 0, Value.int IntKind.u8 0, Value.int IntKind.u8 0, Value.int IntKind.u8 0, Value.int IntKind.u8 0, Value.int IntKind.u8 0, Value.int IntKind.u8 0, Value.int IntKind.u8 0, Value.int IntKind.u8 0, Value.int IntKind.u8 0, Value.int IntKind.u8 0, Value.int IntKind.u8 0, Value.int IntKind.u8 0, Value.int IntKind.u8 0, Value.int IntKind.u8 0, Value.int IntKind.u8 0, Value.int IntKind.u8 0, Value.int IntKind.u8 0, Value.int IntKind.u8 0, Value.int IntKind.u8 0, Value.int IntKind.u8 0, Value.int IntKind.u8 0, Value.int IntKind.u8 0, Value.int IntKind.u8 0, Value.int IntKind.u8 0, Value.int IntKind.u8 0, Value.int IntKind.u8 0, Value.int IntKind.u8 0, Value.int IntKind.u8 0, Value.int IntKind.u8 0, Value.int IntKind.u8 0, Value.int IntKind.u8 0, Value.int IntKind.u8 0, Value.int IntKind.u8 0, Value.int IntKind.u8 0, Value.int IntKind.u8 0, Value.int IntKind.u8 0, Value.int IntKind.u8 0, Value.int IntKind.u8 0, Value.int IntKind.u8 0, Value.int IntKind.u8 0, Value.int IntKind.u8 0, Value.int IntKind.u8 0, Value.int IntKind.u8 0, Value.int IntKind.u8 0, Value.int IntKind.u8 0, Value.int IntKind.u8 0, Value.int IntKind.u8 0, Value.int IntKind.u8 0, Value.int IntKind.u8 0, Value.int IntKind.u8 0, Value.int IntKind.u8 0, Value.int IntKind.u8 0, Value.int IntKind.u8 0, Value.int IntKind.u8 0, Value.int IntKind.u8 0] 100)) (w.heap.size + 1) 0 (min key.length 64)) := Y1.out.there (by rw [HM.out]; have := HK.out; simp; omega)
    go_wp2_with (first | (simp only [SB.out]) | (refine wp_copyN rfl (.tmp 14) (.tmp 15) rfl (w.heap.size + 1) 0 64 64 (.slice av m cv) key rfl rfl (HV.out.up Y2.out (Nat.le_refl _)) TC.out ?_))
    intro w2 hw2
    have B2 : Hid (Blk w2 (w.heap.size + 1) ((fitS key).map b8)) := by
      rw [hw2.out, TK.out, FE.out, ← HM.out]
      exact Y1.out.fit (by rw [HM.out]; exact HK.out)
    have A2 : Hid (Blk w2 w.heap.size ((List.replicate 64 0).map b8)) := by
      rw [hw2.out]
      exact Y0.out.apart (by omega)
    have D2 : Hid (Below w.heap.size w w2) := by
      rw [hw2.out]
      exact below_setCells _ _ _ Y2.out (by omega)
    clear hw2 Y0 Y1 Y2 TC
    have TT : Hid (w2.there w.heap.size 0 ((fitS key).map b8).length) := A2.out.there (by rw [List.length_map, FL.out]; simp)
    go_wp2_with (first | refine wpList_load_mid rfl 100 (.tmp 3) rfl (w.heap.size + 1) 0 rfl ((fitS key).map b8) _ B2.out.all u_blk rfl FI.out ?_ | refine wp_store_eq rfl 100 (.tmp 2) (.tmp 17) rfl w.heap.size 0 ((fitS key).map b8) rfl rfl TT.out FI.out (one_b8 _) ?_)
    intro w5 hw5
    go_wp2_with fail
    refine bodyPost_ret (v := vB (fitS key)) ?_ rfl ⟨rfl, ?_⟩
    · rw [hw5.out]
      exact results_cell (b := w.heap.size) rfl rfl (World.rangeAt_setCells_same _ _ _ _ TT.out) u_blk rfl FI.out
    · rw [hw5.out]
      exact below_setCells _ _ _ D2.out (Nat.le_refl _)
end Go.Proofs.YtdcpicbkemmakaaDoor
