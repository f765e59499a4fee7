/- The contracts of hash.Sum, hash.Resume and sealringkeep.hashes. -/
import Derived.Test.YtfanndkhajokcaaDoorHSum
namespace Go.Proofs.YtfanndkhajokcaaDoor
open Go.RowKit
set_option linter.unusedSimpArgs false
/-- The digest of a text. -/
def sumS (p : List Nat) : List Nat := digS (wordsS IV (p ++ padS (cntS 0 p)))
theorem sumS_length (p : List Nat) : (sumS p).length = 32 := digS_length _
theorem write_fun (H : R8) (n : Nat) (hn : n % 64 = 0) (p q : List Nat) (lp : ∀ x ∈ p, x < 256) (lq : ∀ x ∈ q, x < 256) (hq : q.length ≤ 9223372036854775807) (v : Value) (w : World) (hv : By w v q) (hT : KTab w) :
    Calls Tryd.prog 41 #[stV H n p, v] w fun e w' => e = .returned (stV H n (p ++ q)) ∧ Below w.heap.size w w' :=
  write_core H n hn p q lp lq hq v w hv hT
set_option maxRecDepth 20000 in
set_option maxHeartbeats 2000000 in
theorem hsum_fun (p : List Nat) (lp : ∀ x ∈ p, x < 256) (hp : p.length ≤ 9223372036854775807) (v : Value) (w : World) (hv : By w v p) (hT : KTab w) :
    Calls Tryd.prog 21 #[v] w fun e w' => e = .returned (vB (sumS p)) ∧ Below w.heap.size w w' := by
  have W1 : Hid _ := write_fun IV 0 rfl [] p (by simp) lp hp
  have S1 : Hid _ := sum_fun IV 0 rfl p lp
  have HV : Hid (By w v p) := hv
  have HT : Hid (KTab w) := hT
  have ID : Hid _ := info_d32.trans (congrArg some (show 32 = ((sumS p).map b8).length by rw [List.length_map, sumS_length]))
  obtain ⟨x0, x1⟩ := al1 w #[Value.int IntKind.u8 0, Value.int IntKind.u8 0, Value.int IntKind.u8 0, Value.int IntKind.u8 0, Value.int IntKind.u8 0, Value.int IntKind.u8 0, Value.int IntKind.u8 0, Value.int IntKind.u8 0, Value.int IntKind.u8 0, Value.int IntKind.u8 0, Value.int IntKind.u8 0, Value.int IntKind.u8 0, Value.int IntKind.u8 0, Value.int IntKind.u8 0, Value.int IntKind.u8 0, Value.int IntKind.u8 0, Value.int IntKind.u8 0, Value.int IntKind.u8 0, Value.int IntKind.u8 0, Value.int IntKind.u8 0, Value.int IntKind.u8 0, Value.int IntKind.u8 0, Value.int IntKind.u8 0, Value.int IntKind.u8 0, Value.int IntKind.u8 0, Value.int IntKind.u8 0, Value.int IntKind.u8 0, Value.int IntKind.u8 0, Value.int IntKind.u8 0, Value.int IntKind.u8 0, Value.int IntKind.u8 0, Value.int IntKind.u8 0] 47
  have X0 : Hid (Blk _ _ ((List.replicate 32 0).map b8)) := x0
  have X1 : Hid (Below _ _ _) := x1
  rw [List.nil_append] at W1
  clear hv hT lp hp x0 x1
  go_enter Tryd.func21, Tryd.ntmps21
  go_wp2_with fail
  generalize w.alloc (Obj.cells #[Value.int IntKind.u8 0, Value.int IntKind.u8 0, Value.int IntKind.u8 0, Value.int IntKind.u8 0, Value.int IntKind.u8 0, Value.int IntKind.u8 0, Value.int IntKind.u8 0, Value.int IntKind.u8 0, Value.int IntKind.u8 0, Value.int IntKind.u8 0, Value.int IntKind.u8 0, Value.int IntKind.u8 0, Value.int IntKind.u8 0, Value.int IntKind.u8 0, Value.int IntKind.u8 0, Value.int IntKind.u8 0, Value.int IntKind.u8 0, Value.int IntKind.u8 0, Value.int IntKind.u8 0, Value.int IntKind.u8 0, Value.int IntKind.u8 0, Value.int IntKind.u8 0, Value.int IntKind.u8 0, Value.int IntKind.u8 0, Value.int IntKind.u8 0, Value.int IntKind.u8 0, Value.int IntKind.u8 0, Value.int IntKind.u8 0, Value.int IntKind.u8 0, Value.int IntKind.u8 0, Value.int IntKind.u8 0, Value.int IntKind.u8 0] 47) = w1 at *
  refine (new_fun _).mono ?_
  rintro e w2 ⟨rfl, hb2⟩
  have D2 : Hid (Below w.heap.size w w2) := X1.out.trans (hb2.mono X1.out.size)
  have Y2 : Hid (Blk w2 _ _) := X0.out.up hb2 X0.out.lt
  clear hb2 X0 X1
  go_wp2_with fail
  refine (W1.out v w2 (HV.out.up D2.out (Nat.le_refl _)) (HT.out.up D2.out HT.out.pos)).mono ?_
  rintro e w3 ⟨rfl, hb3⟩
  have D3 : Hid (Below w.heap.size w w3) := D2.out.trans (hb3.mono D2.out.size)
  have Y3 : Hid (Blk w3 _ _) := Y2.out.up hb3 Y2.out.lt
  clear hb3 D2 Y2
  go_wp2_with fail
  refine (S1.out w3 (HT.out.up D3.out HT.out.pos)).mono ?_
  rintro e w4 ⟨rfl, hb4⟩
  have D4 : Hid (Below w.heap.size w w4) := D3.out.trans (hb4.mono D3.out.size)
  have Y4 : Hid (Blk w4 w.heap.size ((List.replicate 32 0).map b8)) := Y3.out.up hb4 Y3.out.lt
  clear hb4 D3 Y3
  have T1 : Hid (w4.there w.heap.size 0 ((sumS p).map b8).length) := Y4.out.there (by rw [List.length_map, sumS_length]; simp)
  go_wp2_with (refine wp_store_eq rfl 47 (.tmp 2) (.tmp 6) rfl w.heap.size 0 ((sumS p).map b8) rfl rfl T1.out ID.out (one_b8 _) ?_)
  intro w5 hw5
  go_wp2_with fail
  refine bodyPost_ret (v := vB (sumS p)) ?_ rfl ⟨rfl, ?_⟩
  · rw [hw5.out]
    exact results_cell (b := w.heap.size) rfl rfl (World.rangeAt_setCells_same _ _ _ _ T1.out) u_d32 rfl ID.out
  · rw [hw5.out]
    exact below_setCells _ _ _ D4.out (Nat.le_refl _)
theorem sum_empty : ∃ l, (sumS []) = 227 :: l ∧ l[30]? = some 85 := by
  have h : (sumS []).head? = some 227 ∧ (sumS []).tail[30]? = some 85 := by decide +kernel
  cases e : sumS [] with
  | nil => rw [e] at h; simp at h
  | cons a l => rw [e] at h; simp at h; exact ⟨l, by rw [h.1], h.2⟩
end Go.Proofs.YtfanndkhajokcaaDoor
