/- The contract of sealringref.mixed: each column of a grid times a row of numbers. -/
import Derived.Test.YtejabkmhpiabnaaAAdd
import Derived.Test.YtejabkmhpiabnaaUpA
namespace Go.Proofs.Ytejabkmhpiabnaa
open Go.RowKit
set_option linter.unusedSimpArgs false
attribute [local go_sem] YieldsP execOp
attribute [local simp] MP.eq_p
namespace A
/-- The places of the columns ahead of k, and in column k of the rows ahead of r, are new ones. -/
def midK (old new : Nat → Nat) (k r : Nat) : List Nat := by_ 16 fun p => if p % 4 < k ∨ (p % 4 = k ∧ p / 4 < r) then new p else old p
theorem midK_length (old new : Nat → Nat) (k r : Nat) : (midK old new k r).length = 16 := by_length _ _
theorem midK_zero (old new : Nat → Nat) : midK old new 0 0 = by_ 16 old := by_congr fun _ _ => if_neg (by omega)
theorem midK_all (old new : Nat → Nat) : midK old new 4 0 = by_ 16 new := by_congr fun _ _ => if_pos (by omega)
theorem midK_next (old new : Nat → Nat) (k : Nat) : midK old new k 4 = midK old new (k + 1) 0 := by_congr fun p hp => by
  by_cases h : p % 4 < k ∨ (p % 4 = k ∧ p / 4 < 4)
  · rw [if_pos h, if_pos (by omega)]
  · rw [if_neg h, if_neg (by omega)]
theorem midK_at (old new : Nat → Nat) {k r p : Nat} (hp : p < 16) (hk : p % 4 = k) (hr : r ≤ p / 4) : (midK old new k r).getD p 0 = old p := by
  unfold midK
  rw [by_get hp, if_neg (by omega)]
theorem midK_set (old new : Nat → Nat) {k r : Nat} (hk : k < 4) (hr : r < 4) : (midK old new k r).set (r * 4 + k) (new (r * 4 + k)) = midK old new k (r + 1) := by
  refine (by_self (l := (midK old new k r).set (r * 4 + k) (new (r * 4 + k))) (by rw [List.length_set, midK_length])).symm.trans (by_congr fun i hi => ?_)
  rw [getD_set _ _ _ _ (by rw [midK_length]; omega)]
  unfold midK
  rw [by_get hi]
  by_cases e : r * 4 + k = i
  · subst e
    rw [if_pos rfl, if_pos (by omega)]
  · rw [if_neg e]
    by_cases e2 : i % 4 < k ∨ (i % 4 = k ∧ i / 4 < r)
    · rw [if_pos e2, if_pos (by omega)]
    · rw [if_neg e2, if_neg (by omega)]
/-- The bytes of column k of a grid. -/
def colG (g : List Nat) (k : Nat) : List Nat := [g.getD k 0, g.getD (4 + k) 0, g.getD (8 + k) 0, g.getD (12 + k) 0]
def mixG (g by' : List Nat) : List Nat := by_ 16 fun p => (G.colL (colG g (p % 4)) by').getD (p / 4) 0
end A
theorem zero4 {w : World} {k : Nat} (h : w.heap[k]? = some (.cells #[Value.int IntKind.u8 0, Value.int IntKind.u8 0, Value.int IntKind.u8 0, Value.int IntKind.u8 0] 23)) : Blk w k ((List.replicate 4 0).map b8) := by
  refine ⟨(Array.getElem?_eq_some_iff.1 h).1, fun j v hv => ?_, fun j => ?_⟩
  · rw [cell_of_row _ _ j _ _ _ h, ← Array.getElem?_toList]; exact hv
  · unfold World.frozen?
    rw [h]
    simp
theorem colL_four {c r : List Nat} (hr : ∀ x ∈ r, x < 256) : G.four (G.colL c r) := by
  refine ⟨by simp [G.colL], fun x hx => ?_⟩
  obtain ⟨i, _, rfl⟩ := List.mem_map.1 hx
  exact G.colN_lt (getD_low hr) i 4
set_option maxRecDepth 20000 in
set_option maxHeartbeats 4000000 in
theorem rmixed_fun (g r : List Nat) (hg : A.ok 16 g) (hr : G.four r) (w : World) :
    Calls Try.prog 46 #[aB g, aB r] w fun e w' => e = .returned (aB (A.mixG g r)) ∧ Below w.heap.size w w' := by
  obtain ⟨new, hnew⟩ : ∃ new : Nat → Nat, new = fun p => (G.colL (A.colG g (p % 4)) r).getD (p / 4) 0 := ⟨_, rfl⟩
  obtain ⟨old, hold⟩ : ∃ old : Nat → Nat, old = fun p => g.getD p 0 := ⟨_, rfl⟩
  have NW : Hid (A.mixG g r = A.by_ 16 new) := by rw [hnew]; exact rfl
  rw [NW.out]
  obtain ⟨cm, hcm⟩ : ∃ cm : Nat → List Nat, ∀ k, cm k = G.colL (A.colG g k) r := ⟨_, fun _ => rfl⟩
  have CM : Hid (∀ k, G.four (cm k) ∧ ∀ j, j < 4 → k < 4 → (cm k).getD j 0 = new (j * 4 + k)) := fun k => ⟨by rw [hcm]; exact colL_four hr.2, fun j hj hk => by
    rw [hcm, hnew]
    show _ = (G.colL (A.colG g ((j * 4 + k) % 4)) r).getD ((j * 4 + k) / 4) 0
    rw [show (j * 4 + k) % 4 = k by omega, show (j * 4 + k) / 4 = j by omega]⟩
  have RC : Hid (∀ k W, Calls Try.prog 54 #[.agg #[b8 (old k), b8 (old (4 + k)), b8 (old (8 + k)), b8 (old (12 + k))], aB r] W fun e w' => e = .returned (aB (cm k)) ∧ Below W.heap.size W w') := fun k W => by
    rw [hcm, hold]
    exact rcol_fun (A.colG g k) r rfl hr.1 (G.four_mk (hg.at _) (hg.at _) (hg.at _) (hg.at _)).2 hr.2 W
  have G0 : Hid (g = A.midK old new 0 0) := by rw [A.midK_zero, hold, A.by_self hg.1]; exact rfl
  have HR : Hid (r.length = 4) := hr.1
  obtain ⟨x0, x1, x2, x3⟩ := al3 w (g.map b8).toArray (r.map b8).toArray #[Value.int IntKind.u8 0, Value.int IntKind.u8 0, Value.int IntKind.u8 0, Value.int IntKind.u8 0, Value.int IntKind.u8 0, Value.int IntKind.u8 0, Value.int IntKind.u8 0, Value.int IntKind.u8 0, Value.int IntKind.u8 0, Value.int IntKind.u8 0, Value.int IntKind.u8 0, Value.int IntKind.u8 0, Value.int IntKind.u8 0, Value.int IntKind.u8 0, Value.int IntKind.u8 0, Value.int IntKind.u8 0] 75 23 75
  rw [show (g.map b8).toArray.toList = (A.midK old new 0 0).map b8 by rw [← G0.out]] at x0
  have X0 : Hid (Blk _ w.heap.size ((A.midK old new 0 0).map b8)) := x0
  have X1 : Hid (Blk _ (w.heap.size + 1) (r.map b8)) := x1
  have X2 : Hid (Blk _ (w.heap.size + 1 + 1) (zB 16)) := x2
  have X3 : Hid (Below w.heap.size w _) := x3
  clear x0 x1 x2 x3 hg hr hnew hold hcm G0 NW
  go_enter Try.func46, Try.ntmps46
  go_wp2_with fail
  generalize World.alloc (World.alloc (w.alloc _) _) _ = w1 at *
  go_loopw [8] (fun i wr => ∃ k : Nat, k ≤ 4 ∧ i = .int .i64 (k : Int) ∧ Hid (Blk wr w.heap.size ((A.midK old new k 0).map b8)) ∧ Hid (Blk wr (w.heap.size + 1) (r.map b8)) ∧ Hid (Blk wr (w.heap.size + 1 + 1) (zB 16)) ∧ Hid (Below w.heap.size w wr)) (fun i _ => 4 - (intOf i).toNat)
  case atStart => exact ⟨0, by omega, rfl, X0, X1, X2, X3⟩
  case round =>
    clear X0 X1 X2 X3
    obtain ⟨k, hk, rfl, X0, X1, X2, X3⟩ := hrel
    by_cases hk1 : k < 4
    · have k1 : (k : Int) < 4 := by omega
      have wk : IntKind.i64.wrap ((k : Int) + 1) = (k : Int) + 1 := by rw [IntKind.wrap_i64]; omega
      have K4 : Hid (k < 4) := hk1
      have CK : Hid _ := RC.out k
      have EC : Hid (∀ W j, j < 4 → Below wr.heap.size wr W → W.cell? ⟨w.heap.size, j * 4 + k, none⟩ = some (b8 (old (j * 4 + k)))) := fun W j hj hW => by
        have h1 := (X0.out.up hW X0.out.lt).byte (j * 4 + k) (by rw [A.midK_length]; omega)
        rw [A.midK_at old new (by omega) (by omega) (Nat.zero_le _)] at h1
        exact h1
      clear hk hk1
      go_wp2_with fail
      refine wp_region_alloc1 19 (.cells #[Value.int IntKind.u8 0, Value.int IntKind.u8 0, Value.int IntKind.u8 0, Value.int IntKind.u8 0] 23) (by kernel_rfl) (by kernel_rfl) (by kernel_rfl) (by kernel_rfl) (by decide) (fun _ _ d _ _ h => by cases d <;> exact h) rfl rfl (fun _ _ => by kernel_rfl) ?_
      apply Exists.intro
      refine ⟨fun U hU f hf hcl => ?_, fun kv w6 hb6 hk6 hc6 => ?_⟩
      · have e0 : ∀ n, (f n).cell? ⟨w.heap.size, k, none⟩ = some (b8 (old k)) := fun n => by
          have := EC.out (f n) 0 (by decide) (hf n).out
          rwa [Nat.zero_mul, Nat.zero_add] at this
        have e1 : ∀ n, (f n).cell? ⟨w.heap.size, 4 + k, none⟩ = some (b8 (old (4 + k))) := fun n => EC.out (f n) 1 (by decide) (hf n).out
        have e2 : ∀ n, (f n).cell? ⟨w.heap.size, 8 + k, none⟩ = some (b8 (old (8 + k))) := fun n => EC.out (f n) 2 (by decide) (hf n).out
        have e3 : ∀ n, (f n).cell? ⟨w.heap.size, 12 + k, none⟩ = some (b8 (old (12 + k))) := fun n => EC.out (f n) 3 (by decide) (hf n).out
        have R1 : Hid (∀ n, (f n).rangeAt (w.heap.size + 1) 0 (r.map b8)) := fun n => (X1.out.up (hf n).out X1.out.lt).all
        clear hf
        simp only [List.take_succ_cons, List.take_zero]
        repeat (first | (refine quietA_ld rfl u_a4 info_a4 (.tmp 3) rfl (w.heap.size + 1) 0 rfl r HR.out (fun W hW => by obtain ⟨n, rfl⟩ := hW; exact R1.out n) ?_; simp only [Act.put, List.setIfInBounds_toArray, List.set_cons_succ, List.set_cons_zero]) | go_big_quiet_step (first | (go_at_call 54; exact (CK.out _).mono fun e w'' ⟨he, hb⟩ => ⟨he, hcl.out _ _ hb⟩)))
        exact wpQuiet_nil rfl
      simp only [List.drop_succ_cons, List.drop_zero]
      have Z4 : Hid (Blk w6 kv ((List.replicate 4 0).map b8)) := zero4 hc6.out
      have Z0 : Hid (Blk w6 w.heap.size ((A.midK old new k 0).map b8)) := X0.out.up hb6.out X0.out.lt
      have Z1 : Hid (Blk w6 (w.heap.size + 1) (r.map b8)) := X1.out.up hb6.out X1.out.lt
      have Z2 : Hid (Blk w6 (w.heap.size + 1 + 1) (zB 16)) := X2.out.up hb6.out X2.out.lt
      have Z3 : Hid (Below w.heap.size w w6) := X3.out.trans (hb6.out.mono X3.out.size)
      have NK : Hid (w.heap.size + 1 + 1 < kv) := Nat.lt_of_lt_of_le X2.out.lt hk6
      obtain ⟨CF, CE⟩ := CM.out k
      have CF : Hid (G.four (cm k)) := CF
      have CE : Hid (∀ j, j < 4 → (cm k).getD j 0 = new (j * 4 + k)) := fun j hj => CE j hj K4.out
      generalize cm k = ck at *
      clear hb6 hk6 hc6 X0 X1 X2 X3 EC CK
      have T6 : Hid (w6.there kv 0 (ck.map b8).length) := Z4.out.there (by rw [List.length_map, CF.out.1]; simp)
      go_wp2_with (refine wp_store_eq rfl 23 (.tmp 6) (.tmp 29) rfl kv 0 (ck.map b8) rfl rfl T6.out (info_n info_a4 ck CF.out.1) (one_b8 _) ?_)
      intro w7 hw7
      have Y0 : Hid (Blk w7 w.heap.size ((A.midK old new k 0).map b8)) := by rw [hw7.out]; exact Z0.out.apart (by have := NK.out; omega)
      have Y1 : Hid (Blk w7 (w.heap.size + 1) (r.map b8)) := by rw [hw7.out]; exact Z1.out.apart (by have := NK.out; omega)
      have Y2 : Hid (Blk w7 (w.heap.size + 1 + 1) (zB 16)) := by rw [hw7.out]; exact Z2.out.apart (by have := NK.out; omega)
      have Y4 : Hid (Blk w7 kv (ck.map b8)) := by
        rw [hw7.out]
        have h1 : Blk w6 kv ([] ++ ((List.replicate 4 0).map b8 ++ [])) := by simpa using Z4.out
        have h2 := h1.store (o := 0) (b' := ck.map b8) rfl (by rw [List.length_map, CF.out.1]; simp)
        rw [List.nil_append, List.append_nil] at h2
        exact h2
      have Y3 : Hid (Below w.heap.size w w7) := by rw [hw7.out]; exact below_setCells _ _ _ Z3.out (by have := NK.out; omega)
      clear hw7 Z0 Z1 Z2 Z3 Z4 T6
      go_wp2_with fail
      go_loopw [30] (fun i wr => ∃ j : Nat, j ≤ 4 ∧ i = .int .i64 (j : Int) ∧ Hid (Blk wr w.heap.size ((A.midK old new k j).map b8)) ∧ Hid (Blk wr (w.heap.size + 1) (r.map b8)) ∧ Hid (Blk wr (w.heap.size + 1 + 1) (zB 16)) ∧ Hid (Blk wr kv (ck.map b8)) ∧ Hid (Below w.heap.size w wr)) (fun i _ => 4 - (intOf i).toNat)
      case atStart => exact ⟨0, by omega, rfl, Y0, Y1, Y2, Y4, Y3⟩
      case round =>
        clear Y0 Y1 Y2 Y3 Y4
        obtain ⟨j, hj, rfl, Y0, Y1, Y2, Y4, Y3⟩ := hrel
        by_cases hj1 : j < 4
        · have j1 : (j : Int) < 4 := by omega
          have wj : IntKind.i64.wrap ((j : Int) + 1) = (j : Int) + 1 := by rw [IntKind.wrap_i64]; omega
          have J4 : Hid (j < 4) := hj1
          have cc4 : Hid (∀ W, Below wr.heap.size wr W → W.cell? ⟨kv, j, none⟩ = some (b8 (new (j * 4 + k)))) := fun W hW => by
            have h1 := (Y4.out.up hW Y4.out.lt).byte j (by rw [CF.out.1]; exact hj1)
            rw [CE.out j hj1] at h1
            exact h1
          have cg : Hid (∀ W, Below wr.heap.size wr W → W.cell? ⟨w.heap.size, j * 4 + k, none⟩ = some (b8 (old (j * 4 + k)))) := fun W hW => by
            have K4' := K4.out
            have h1 := (Y0.out.up hW Y0.out.lt).byte (j * 4 + k) (by rw [A.midK_length]; omega)
            rw [A.midK_at old new (by omega) (by omega) (by omega)] at h1
            exact h1
          have US : Hid (∀ W, Blk W w.heap.size ((A.midK old new k j).map b8) → Blk (W.setCell ⟨w.heap.size, j * 4 + k, none⟩ (b8 (new (j * 4 + k)))) w.heap.size ((A.midK old new k (j + 1)).map b8)) := fun W h => by
            have K4' := K4.out
            rw [← A.midK_set old new K4.out hj1]
            exact h.setB _ _ (by rw [A.midK_length]; omega)
          generalize new (j * 4 + k) = nw at *
          generalize old (j * 4 + k) = og at *
          clear hj hj1
          go_wp2_with fail
          refine wp_region_monoSE 7 [MP.eq (.int .i64 (j : Int)), MP.eq (.int .i64 (k : Int)), MP.eq (.int .i64 (j : Int)), MP.eq (.pointer (some ⟨kv, j, none⟩)), MP.eq (b8 nw), MP.eq (.pointer (some ⟨w.heap.size, j * 4, none⟩)), MP.eq (.pointer (some ⟨w.heap.size, j * 4 + k, none⟩))] (by kernel_rfl) (by kernel_rfl) rfl (by decide) (by kernel_rfl) ?_
          apply Exists.intro
          refine ⟨fun vals => ?_, ?_, fun vals8 w8 hb8 hF hO => ?_⟩
          · simp only [putsV, dstL, List.length_cons, List.length_nil, Nat.zero_add, Nat.reduceAdd, List.getElem?_cons_zero, List.getElem?_cons_succ, Option.bind_some, Act.put, List.setIfInBounds_toArray, List.set_cons_succ, List.set_cons_zero]
            rfl
          · refine ⟨?_, ?_, ?_, ?_, ?_, ?_, ?_, trivial⟩
            · intro vals W hW hw hd
              try simp [Region.binds] at hd
              refine ⟨by first | rfl | simp [Region.wanted, yielded, hd], ?_⟩
              simp [go_sem, hd]
              exact Below.refl _ _
            · intro vals W hW hw hd
              try simp [Region.binds] at hd
              refine ⟨by first | rfl | simp [Region.wanted, yielded, hd], ?_⟩
              simp [go_sem, hd]
              exact Below.refl _ _
            · intro vals W hW hw hd
              try simp [Region.binds] at hd
              refine ⟨by first | rfl | simp [Region.wanted, yielded, hd], ?_⟩
              simp [go_sem, hd]
              exact Below.refl _ _
            · intro vals W hW hw hd
              try simp [Region.binds] at hd
              refine ⟨by first | rfl | simp [Region.wanted, yielded, hd], ?_⟩
              simp [go_sem, hd, j1]
              exact Below.refl _ _
            · intro vals W hW hw hd
              try simp [Region.binds] at hd
              refine ⟨by first | rfl | simp [Region.wanted, yielded, hd], ?_⟩
              have cc := cc4.out W hW.out
              simp [go_sem, hd, cc]
              exact Below.refl _ _
            · intro vals W hW hw hd
              try simp [Region.binds] at hd
              refine ⟨by first | rfl | simp [Region.wanted, yielded, hd], ?_⟩
              simp [go_sem, hd, j1]
              exact Below.refl _ _
            · intro vals W hW hw hd
              try simp [Region.binds] at hd
              refine ⟨by first | rfl | simp [Region.wanted, yielded, hd], ?_⟩
              simp [go_sem, hd, k1]
              exact Below.refl _ _
          obtain ⟨f0, f1, f2, f3, f4, f5, f6, _⟩ := hF
          simp only [MP.eq_p] at f0 f1 f2 f3 f4 f5 f6
          rw [f0, f1, f2, f3, f4, f5, f6]
          simp only [List.drop_succ_cons, List.drop_zero]
          have c8 := cg.out w8 hb8.out
          have z8 := (Y0.out.up hb8.out Y0.out.lt).fz (j * 4 + k)
          have V0 : Hid _ := US.out w8 (Y0.out.up hb8.out Y0.out.lt)
          have V1 : Hid _ := (Y1.out.up hb8.out Y1.out.lt).apart1 (k' := w.heap.size) (o := j * 4 + k) (v := b8 nw) (by omega)
          have V2 : Hid _ := (Y2.out.up hb8.out Y2.out.lt).apart1 (k' := w.heap.size) (o := j * 4 + k) (v := b8 nw) (by omega)
          have V4 : Hid _ := (Y4.out.up hb8.out Y4.out.lt).apart1 (k' := w.heap.size) (o := j * 4 + k) (v := b8 nw) (by have := NK.out; omega)
          have V3 : Hid _ := (Y3.out.trans (hb8.out.mono Y3.out.size)).setCell (p := ⟨w.heap.size, j * 4 + k, none⟩) (Nat.le_refl _) (b8 nw)
          clear f0 f1 f2 f3 f4 f5 f6 hb8 hO Y0 Y1 Y2 Y3 Y4 cc4 cg US
          go_wp2_with fail
          go_roundw
          case rel => exact ⟨j + 1, J4.out, by first | rfl | go_num, V0, V1, V2, V4, V3⟩
          case measure => have := J4.out; simp [intOf]; omega
        · obtain rfl : j = 4 := by omega
          rw [A.midK_next] at Y0
          clear hj hj1
          go_wp2_with fail
          go_roundw
          case rel => exact ⟨k + 1, K4.out, by first | rfl | go_num, Y0, Y1, Y2, Y3⟩
          case measure => have := K4.out; simp [intOf]; omega
    · obtain rfl : k = 4 := by omega
      rw [A.midK_all] at X0
      have LL : Hid ((A.by_ 16 new).length = 16) := A.by_length _ _
      obtain ⟨l, hl⟩ : ∃ l, l = A.by_ 16 new := ⟨_, rfl⟩
      rw [← hl] at X0 LL
      have HE : Hid (l = A.by_ 16 new) := hl
      clear hl hk hk1
      have T0 : Hid (wr.there (w.heap.size + 1 + 1) 0 (l.map b8).length) := X2.out.there (by rw [List.length_map, LL.out, zB_length]; omega)
      go_wp2_with (first | refine wpList_load_mid rfl 75 (.tmp 2) rfl w.heap.size 0 rfl (l.map b8) _ X0.out.all u_g16 rfl (info_n info_g16 l LL.out) ?_ | refine wp_store_eq rfl 75 (.tmp 4) (.tmp 42) rfl (w.heap.size + 1 + 1) 0 (l.map b8) rfl rfl T0.out (info_n info_g16 l LL.out) (one_b8 _) ?_)
      intro w9 hw9
      go_wp2_with fail
      refine bodyPost_ret (v := aB l) ?_ rfl ⟨by rw [HE.out], ?_⟩
      · rw [hw9.out]
        exact results_cell (b := w.heap.size + 1 + 1) rfl rfl (World.rangeAt_setCells_same _ _ _ _ T0.out) u_g16 rfl (info_n info_g16 l LL.out)
      · rw [hw9.out]
        exact below_setCells _ _ _ X3.out (by omega)
end Go.Proofs.Ytejabkmhpiabnaa
