/- HashResumes returns true for every digest, number and text. -/
import Derived.Test.YthaipnjnkkdfbaaDoorHRSum
import Derived.Test.YthaipnjnkkdfbaaDoorHLaid
namespace Go.Proofs.YthaipnjnkkdfbaaDoor
open Go.RowKit
open Go.ChangeShapes Go.WideShapes Go.ChangeAt
set_option linter.unusedSimpArgs false
attribute [local go_sem] YieldsP execOp
attribute [local simp] MP.eq_p
def MP.wy (ws : List (BitVec 32)) : MP := ⟨fun v w => Wy w v ws, fun h hb => h.up hb (Nat.le_refl _)⟩
theorem vB_ints (xs : List Int) (hx : ∀ z ∈ xs, 0 ≤ z ∧ z < 256) : vB (xs.map Int.toNat) = .agg (xs.map (Value.int .u8)).toArray := by
  unfold vB
  rw [List.map_map]
  congr 2
  apply List.map_congr_left
  intro z hz
  have := hx z hz
  simp only [Function.comp, b8]
  rw [Int.toNat_of_nonneg this.1]
set_option maxRecDepth 20000 in
set_option maxHeartbeats 4000000 in
theorem resumes_bad (d : List Nat) (hd : d.length = 32) (n : Nat) (h64 : ¬ n % 64 = 0) (v3 : Value) (p : List Nat) (lp : ∀ x ∈ p, x < 256) (zp : p.length ≤ 140737488351232) (w : World) (h1 : By w v3 p) (hK : KTab w) (hR : RTab w) :
    Calls Tryd.prog 4 #[vB d, .int .u64 n, v3] w fun e w' => e = .returned (.bool true) ∧ Below w.heap.size w w' := by
  have t1 : ¬ (n : Int) % 64 = 0 := by omega
  have t2 : ((n : Int) % 64 == 0) = false := by simpa using t1
  have RB_ : Hid _ := resume_bad d n h64
  have WB : Hid _ := write_fun IV 0 rfl [] p (by simp) lp (by omega)
  rw [List.nil_append] at WB
  have SB : Hid (∀ w, KTab w → Calls Tryd.prog 14 #[stV IV 0 p] w fun e w' => e = .returned (vB (sumS p)) ∧ Below w.heap.size w w') := sum_fun IV 0 rfl p lp
  have RB : Hid _ := rsum_fun p lp (by omega)
  have LS : Hid _ := sumS_length p
  have HP : Hid (By w v3 p) := h1
  have KU : Hid (∀ w', Below w.heap.size w w' → KTab w') := fun w' hb => hK.up hb hK.pos
  have RU : Hid (∀ w', Below w.heap.size w w' → RTab w') := fun w' hb => hR.up hb hR.pos
  have ID : Hid _ := info_d32.trans (congrArg some (show 32 = (d.map b8).length by rw [List.length_map, hd]))
  clear h1 hK hR lp zp h64 hd
  obtain ⟨ds, hu, hr⟩ := u_state'
  go_enter Tryd.func4, Tryd.ntmps4
  obtain ⟨x0, x1⟩ := al1 w (d.map b8).toArray 31
  have X0 : Hid (Blk _ _ (d.map b8)) := x0
  have X1 : Hid (Below _ _ _) := x1
  clear x0 x1
  go_wp2_with (refine wpList_load_mid rfl 31 (.tmp 3) rfl w.heap.size 0 rfl (d.map b8) _ X0.out.all u_d32 rfl ID.out ?_)
  refine (RB_.out _).mono ?_
  rintro e w2 ⟨rfl, hb2⟩
  have D2 : Hid (Below w.heap.size w w2) := X1.out.trans (hb2.mono X1.out.size)
  clear hb2 X0 X1
  go_wp2_with (refine wp_mkS rfl rfl 7 (.tmp 13) rfl rfl rfl rfl IV 0 [] rfl rfl ?_)
  intro w3 s3 hb3
  have S3 : Hid (StAt w3 w2.heap.size IV 0 []) := s3
  have D3 : Hid (Below w.heap.size w w3) := D2.out.trans (hb3.mono D2.out.size)
  clear s3 hb3 D2
  generalize w2.heap.size = ks at *
  go_wp2_with fail
  refine wp_region_monoE [MP.eq (.int .i64 1), MP.eq (.bool true), MP.eq (.bool true), MP.eq (stV IV 0 []), MP.eq (v3), MP.eq (stV IV 0 p), MP.eq (vB (sumS p)), MP.eq (v3), MP.eq (.string (sOf p)), MP.eq (vB (sumS p)), MP.eq (.bool true), MP.eq (.bool true), MP.eq (.bool true)] (by kernel_rfl) (by kernel_rfl) rfl ?_
  apply Exists.intro
  refine ⟨fun vals => ?_, ?_, fun vals5 w5 hb5 hF => ?_⟩
  · simp only [putsV, dstL, List.length_cons, List.length_nil, Nat.zero_add, Nat.reduceAdd, List.getElem?_cons_zero, List.getElem?_cons_succ, Option.bind_some, Act.put, List.setIfInBounds_toArray, List.set_cons_succ, List.set_cons_zero]
    rfl
  · refine ⟨?_, ?_, ?_, ?_, ?_, ?_, ?_, ?_, ?_, ?_, ?_, ?_, ?_, trivial⟩
    · intro vals W hW hw hd
      try simp [Region.binds] at hd
      refine ⟨by first | rfl | simp [Region.wanted, yielded, hd], ?_⟩
      simp [go_sem, hd]
      exact Below.refl _ _
    · intro vals W hW hw hd
      try simp [Region.binds] at hd
      refine ⟨by first | rfl | simp [Region.wanted, yielded, hd], ?_⟩
      simp [go_sem, hd]
      exact Below.refl _ _
    · intro vals W hW hw hd
      try simp [Region.binds] at hd
      refine ⟨by first | rfl | simp [Region.wanted, yielded, hd], ?_⟩
      simp [go_sem, hd]
      exact Below.refl _ _
    · intro vals W hW hw hd
      try simp [Region.binds] at hd
      refine ⟨by first | rfl | simp [Region.wanted, yielded, hd], ?_⟩
      exact yields_load 28 (.tmp 7) rfl ks 0 rfl _ ds (Blk.all (S3.out.up hW.out S3.out.lt)) hu hr (info_state.trans (congrArg some (cS_length _ _ _ (restS_length _)).symm)) rfl
    · intro vals W hW hw hd
      try simp [Region.binds] at hd
      refine ⟨by first | rfl | simp [Region.wanted, yielded, hd], ?_⟩
      simp [go_sem, hd]
      exact Below.refl _ _
    · intro vals W hW hw hd
      try simp [Region.binds] at hd
      refine ⟨by first | rfl | simp [Region.wanted, yielded, hd], ?_⟩
      simp [go_sem, hd]
      exact (WB.out v3 W (HP.out.up (D3.out.trans (hW.out.mono D3.out.size)) (Nat.le_refl _)) (KU.out _ (D3.out.trans (hW.out.mono D3.out.size)))).mono fun e w' ⟨he, hb⟩ => ⟨_, he, rfl, hb⟩
    · intro vals W hW hw hd
      try simp [Region.binds] at hd
      refine ⟨by first | rfl | simp [Region.wanted, yielded, hd], ?_⟩
      simp [go_sem, hd]
      exact (SB.out W (KU.out _ (D3.out.trans (hW.out.mono D3.out.size)))).mono fun e w' ⟨he, hb⟩ => ⟨_, he, rfl, hb⟩
    · intro vals W hW hw hd
      try simp [Region.binds] at hd
      refine ⟨by first | rfl | simp [Region.wanted, yielded, hd], ?_⟩
      simp [go_sem, hd]
      exact Below.refl _ _
    · intro vals W hW hw hd
      try simp [Region.binds] at hd
      refine ⟨by first | rfl | simp [Region.wanted, yielded, hd], ?_⟩
      simp [go_sem, hd, bytes_conv (HP.out.up (D3.out.trans (hW.out.mono D3.out.size)) (Nat.le_refl _))]
      exact Below.refl _ _
    · intro vals W hW hw hd
      try simp [Region.binds] at hd
      refine ⟨by first | rfl | simp [Region.wanted, yielded, hd], ?_⟩
      simp [go_sem, hd]
      exact (RB.out W (RU.out _ (D3.out.trans (hW.out.mono D3.out.size)))).mono fun e w' ⟨he, hb⟩ => ⟨_, he, rfl, hb⟩
    · intro vals W hW hw hd
      try simp [Region.binds] at hd
      refine ⟨by first | rfl | simp [Region.wanted, yielded, hd], ?_⟩
      simp [go_sem, hd, eql_self _ LS.out]
      exact Below.refl _ _
    · intro vals W hW hw hd
      try simp [Region.binds] at hd
      refine ⟨by first | rfl | simp [Region.wanted, yielded, hd], ?_⟩
      simp [go_sem, hd]
      exact Below.refl _ _
    · intro vals W hW hw hd
      try simp [Region.binds] at hd
      refine ⟨by first | rfl | simp [Region.wanted, yielded, hd], ?_⟩
      simp [go_sem, hd]
      exact Below.refl _ _
  obtain ⟨f0, f1, f2, f3, f4, f5, f6, f7, f8, f9, f10, f11, f12, _⟩ := hF
  simp only [MP.eq_p] at f0 f1 f2 f3 f4 f5 f6 f7 f8 f9 f10 f11 f12
  have D5 : Hid (Below w.heap.size w w5) := D3.out.trans (hb5.out.mono D3.out.size)
  rw [f12]
  go_wp2_with fail
  go_ret
  exact ⟨rfl, D5.out⟩
set_option maxRecDepth 20000 in
set_option maxHeartbeats 4000000 in
theorem resumes_ok (d : List Nat) (hd : d.length = 32) (ld : ∀ x ∈ d, x < 256) (n : Nat) (hn : n < 18446744073709551616) (h64 : n % 64 = 0) (v3 : Value) (p : List Nat) (lp : ∀ x ∈ p, x < 256) (zp : p.length ≤ 140737488351232) (w : World) (h1 : By w v3 p) (hK : KTab w) (hR : RTab w) :
    Calls Tryd.prog 4 #[vB d, .int .u64 n, v3] w fun e w' => e = .returned (.bool true) ∧ Below w.heap.size w w' := by
  have t1 : (n : Int) % 64 = 0 := by omega
  have RO : Hid _ := resume_ok d hd ld n hn h64
  have WG : Hid _ := write_fun (w8of d) n h64 [] p (by simp) lp (by omega)
  rw [List.nil_append] at WG
  have SG_ : Hid _ := sum_fun (w8of d) n h64 p lp
  have FG : Hid _ := from_fun (w8of d) n h64 p lp (by omega)
  have WO : Hid _ := wordsOf_fun d hd ld
  have LG : Hid _ := digS_length (wordsS (w8of d) (p ++ padS (cntS n p)))
  have HP : Hid (By w v3 p) := h1
  have KU : Hid (∀ w', Below w.heap.size w w' → KTab w') := fun w' hb => hK.up hb hK.pos
  have RU : Hid (∀ w', Below w.heap.size w w' → RTab w') := fun w' hb => hR.up hb hR.pos
  have ID : Hid _ := info_d32.trans (congrArg some (show 32 = (d.map b8).length by rw [List.length_map, hd]))
  clear h1 hK hR lp zp h64 hd ld hn
  generalize digS (wordsS (w8of d) (p ++ padS (cntS n p))) = dg at *
  obtain ⟨ds, hu, hr⟩ := u_state'
  go_enter Tryd.func4, Tryd.ntmps4
  obtain ⟨x0, x1⟩ := al1 w (d.map b8).toArray 31
  have X0 : Hid (Blk _ _ (d.map b8)) := x0
  have X1 : Hid (Below _ _ _) := x1
  clear x0 x1
  go_wp2_with (refine wpList_load_mid rfl 31 (.tmp 3) rfl w.heap.size 0 rfl (d.map b8) _ X0.out.all u_d32 rfl ID.out ?_)
  refine (RO.out _).mono ?_
  rintro e w2 ⟨rfl, hb2⟩
  have D2 : Hid (Below w.heap.size w w2) := X1.out.trans (hb2.mono X1.out.size)
  have E2 : Hid (Blk w2 w.heap.size (d.map b8)) := X0.out.up hb2 X0.out.lt
  clear hb2 X0 X1
  go_wp2_with (refine wp_mkS rfl rfl 7 (.tmp 13) rfl rfl rfl rfl (w8of d) n [] rfl rfl ?_)
  intro w3 s3 hb3
  have S3 : Hid (StAt w3 w2.heap.size (w8of d) n []) := s3
  have E3 : Hid (Blk w3 w.heap.size (d.map b8)) := E2.out.up hb3 E2.out.lt
  have D3 : Hid (Below w.heap.size w w3) := D2.out.trans (hb3.mono D2.out.size)
  clear s3 hb3 D2 E2
  generalize w2.heap.size = ks at *
  go_wp2_with fail
  refine wp_region_monoE [MP.eq (.int .i64 0), MP.eq (.bool true), MP.eq (.bool true), MP.eq (stV (w8of d) n []), MP.eq (v3), MP.eq (stV (w8of d) n p), MP.eq (vB dg), MP.eq (vB d), MP.wy (w8of d).list, MP.eq (.int .u64 (n : Int)), MP.eq (v3), MP.eq (.string (sOf p)), MP.eq (vB dg), MP.eq (.bool true), MP.eq (.bool true), MP.eq (.bool true)] (by kernel_rfl) (by kernel_rfl) rfl ?_
  apply Exists.intro
  refine ⟨fun vals => ?_, ?_, fun vals5 w5 hb5 hF => ?_⟩
  · simp only [putsV, dstL, List.length_cons, List.length_nil, Nat.zero_add, Nat.reduceAdd, List.getElem?_cons_zero, List.getElem?_cons_succ, Option.bind_some, Act.put, List.setIfInBounds_toArray, List.set_cons_succ, List.set_cons_zero]
    rfl
  · refine ⟨?_, ?_, ?_, ?_, ?_, ?_, ?_, ?_, ?_, ?_, ?_, ?_, ?_, ?_, ?_, ?_, trivial⟩
    · intro vals W hW hw hd
      try simp [Region.binds] at hd
      refine ⟨by first | rfl | simp [Region.wanted, yielded, hd], ?_⟩
      simp [go_sem, hd]
      exact Below.refl _ _
    · intro vals W hW hw hd
      try simp [Region.binds] at hd
      refine ⟨by first | rfl | simp [Region.wanted, yielded, hd], ?_⟩
      simp [go_sem, hd]
      exact Below.refl _ _
    · intro vals W hW hw hd
      try simp [Region.binds] at hd
      refine ⟨by first | rfl | simp [Region.wanted, yielded, hd], ?_⟩
      simp [go_sem, hd]
      exact Below.refl _ _
    · intro vals W hW hw hd
      try simp [Region.binds] at hd
      refine ⟨by first | rfl | simp [Region.wanted, yielded, hd], ?_⟩
      exact yields_load 28 (.tmp 7) rfl ks 0 rfl _ ds (Blk.all (S3.out.up hW.out S3.out.lt)) hu hr (info_state.trans (congrArg some (cS_length _ _ _ (restS_length _)).symm)) rfl
    · intro vals W hW hw hd
      try simp [Region.binds] at hd
      refine ⟨by first | rfl | simp [Region.wanted, yielded, hd], ?_⟩
      simp [go_sem, hd]
      exact Below.refl _ _
    · intro vals W hW hw hd
      try simp [Region.binds] at hd
      refine ⟨by first | rfl | simp [Region.wanted, yielded, hd], ?_⟩
      simp [go_sem, hd]
      exact (WG.out v3 W (HP.out.up (D3.out.trans (hW.out.mono D3.out.size)) (Nat.le_refl _)) (KU.out _ (D3.out.trans (hW.out.mono D3.out.size)))).mono fun e w' ⟨he, hb⟩ => ⟨_, he, rfl, hb⟩
    · intro vals W hW hw hd
      try simp [Region.binds] at hd
      refine ⟨by first | rfl | simp [Region.wanted, yielded, hd], ?_⟩
      simp [go_sem, hd]
      exact (SG_.out W (KU.out _ (D3.out.trans (hW.out.mono D3.out.size)))).mono fun e w' ⟨he, hb⟩ => ⟨_, he, rfl, hb⟩
    · intro vals W hW hw hd
      try simp [Region.binds] at hd
      refine ⟨by first | rfl | simp [Region.wanted, yielded, hd], ?_⟩
      exact yields_load 31 (.tmp 3) rfl w.heap.size 0 rfl _ _ (Blk.all (E3.out.up hW.out E3.out.lt)) u_d32 rfl ID.out rfl
    · intro vals W hW hw hd
      try simp [Region.binds] at hd
      refine ⟨by first | rfl | simp [Region.wanted, yielded, hd], ?_⟩
      simp [go_sem, hd]
      exact (WO.out W).mono fun e w' ⟨⟨v, he, hy⟩, hb⟩ => ⟨v, he, hy, hb⟩
    · intro vals W hW hw hd
      try simp [Region.binds] at hd
      refine ⟨by first | rfl | simp [Region.wanted, yielded, hd], ?_⟩
      simp [go_sem, hd]
      exact Below.refl _ _
    · intro vals W hW hw hd
      try simp [Region.binds] at hd
      refine ⟨by first | rfl | simp [Region.wanted, yielded, hd], ?_⟩
      simp [go_sem, hd]
      exact Below.refl _ _
    · intro vals W hW hw hd
      try simp [Region.binds] at hd
      refine ⟨by first | rfl | simp [Region.wanted, yielded, hd], ?_⟩
      simp [go_sem, hd, bytes_conv (HP.out.up (D3.out.trans (hW.out.mono D3.out.size)) (Nat.le_refl _))]
      exact Below.refl _ _
    · intro vals W hW hw hd
      try simp [Region.binds] at hd
      refine ⟨by first | rfl | simp [Region.wanted, yielded, hd], ?_⟩
      obtain ⟨q8, q9, q11⟩ := hd
      have FF := (FG.out (vals 8) W q8 (RU.out _ (D3.out.trans (hW.out.mono D3.out.size)))).mono fun e w' (he : _ ∧ _) => (⟨_, he.1, rfl, he.2⟩ : ∃ v, e = .returned v ∧ v = vB dg ∧ Below W.heap.size W w')
      simp [go_sem, q9, q11]
      exact FF
    · intro vals W hW hw hd
      try simp [Region.binds] at hd
      refine ⟨by first | rfl | simp [Region.wanted, yielded, hd], ?_⟩
      simp [go_sem, hd, eql_self _ LG.out]
      exact Below.refl _ _
    · intro vals W hW hw hd
      try simp [Region.binds] at hd
      refine ⟨by first | rfl | simp [Region.wanted, yielded, hd], ?_⟩
      simp [go_sem, hd]
      exact Below.refl _ _
    · intro vals W hW hw hd
      try simp [Region.binds] at hd
      refine ⟨by first | rfl | simp [Region.wanted, yielded, hd], ?_⟩
      simp [go_sem, hd]
      exact Below.refl _ _
  obtain ⟨f0, f1, f2, f3, f4, f5, f6, f7, f8, f9, f10, f11, f12, f13, f14, f15, _⟩ := hF
  simp only [MP.eq_p] at f0 f1 f2 f3 f4 f5 f6 f7 f9 f10 f11 f12 f13 f14 f15
  have D5 : Hid (Below w.heap.size w w5) := D3.out.trans (hb5.out.mono D3.out.size)
  rw [f15]
  go_wp2_with fail
  go_ret
  exact ⟨rfl, D5.out⟩
theorem hashResumes_law (xs : List Int) (hl : xs.length = 32) (hx : ∀ z ∈ xs, 0 ≤ z ∧ z < 256) (x : Int) (h0 : 0 ≤ x ∧ x < 18446744073709551616) (v3 : Value) (p : List Nat) (lp : lowB p) (zp : p.length ≤ 140737488351232) (w : World) (h1 : By w v3 p) (hK : KTab w) (hR : RTab w) :
    Calls Tryd.prog 4 #[.agg (xs.map (Value.int .u8)).toArray, .int .u64 x, v3] w fun e w' => e = .returned (.bool true) ∧ Below w.heap.size w w' := by
  obtain ⟨n, rfl⟩ := Int.eq_ofNat_of_zero_le h0.1
  rw [← vB_ints xs hx]
  have hd : (xs.map Int.toNat).length = 32 := by simpa using hl
  have ld : ∀ y ∈ xs.map Int.toNat, y < 256 := fun y hy => by
    obtain ⟨z, hz, rfl⟩ := List.mem_map.1 hy
    have := hx z hz
    omega
  by_cases h : n % 64 = 0
  · exact resumes_ok _ hd ld n (by omega) h v3 p lp zp w h1 hK hR
  · exact resumes_bad _ hd n h v3 p lp zp w h1 hK hR
set_option maxRecDepth 100000 in
theorem hashResumes_met (os : Os) : laidMet Tryd.prog Rows.hashResumesRow.laid ((World.doorLaid Tryd.prog 14 os).forCall (fun _ _ => 0) ⟨#[], #[.agg #[.int .u8 0, .int .u8 0, .int .u8 0, .int .u8 0, .int .u8 0, .int .u8 0, .int .u8 0, .int .u8 0, .int .u8 0, .int .u8 0, .int .u8 0, .int .u8 0, .int .u8 0, .int .u8 0, .int .u8 0, .int .u8 0, .int .u8 0, .int .u8 0, .int .u8 0, .int .u8 0, .int .u8 0, .int .u8 0, .int .u8 0, .int .u8 0, .int .u8 0, .int .u8 0, .int .u8 0, .int .u8 0, .int .u8 0, .int .u8 0, .int .u8 0, .int .u8 0], .int .u64 0, .slice none 0 0], []⟩).memory := laidMet_of_run' 8 (by kernel_rfl) (by kernel_rfl)
set_option maxRecDepth 100000 in
theorem hashResumes_reads (os : Os) {H : Type} (enc : TypeId × Value → H) : ∃ places, DataW.whole enc Tryd.prog ((World.doorLaid Tryd.prog 14 os).forCall (fun _ _ => 0) ⟨#[], #[.agg #[.int .u8 0, .int .u8 0, .int .u8 0, .int .u8 0, .int .u8 0, .int .u8 0, .int .u8 0, .int .u8 0, .int .u8 0, .int .u8 0, .int .u8 0, .int .u8 0, .int .u8 0, .int .u8 0, .int .u8 0, .int .u8 0, .int .u8 0, .int .u8 0, .int .u8 0, .int .u8 0, .int .u8 0, .int .u8 0, .int .u8 0, .int .u8 0, .int .u8 0, .int .u8 0, .int .u8 0, .int .u8 0, .int .u8 0, .int .u8 0, .int .u8 0, .int .u8 0], .int .u64 0, .slice none 0 0], []⟩).memory Tryd.f4.params.toList Rows.hashResumesSpec.vars false #[.agg #[.int .u8 0, .int .u8 0, .int .u8 0, .int .u8 0, .int .u8 0, .int .u8 0, .int .u8 0, .int .u8 0, .int .u8 0, .int .u8 0, .int .u8 0, .int .u8 0, .int .u8 0, .int .u8 0, .int .u8 0, .int .u8 0, .int .u8 0, .int .u8 0, .int .u8 0, .int .u8 0, .int .u8 0, .int .u8 0, .int .u8 0, .int .u8 0, .int .u8 0, .int .u8 0, .int .u8 0, .int .u8 0, .int .u8 0, .int .u8 0, .int .u8 0, .int .u8 0], .int .u64 0, .slice none 0 0].toList 8 = some ([.agg [.lit (.int .u8 0), .lit (.int .u8 0), .lit (.int .u8 0), .lit (.int .u8 0), .lit (.int .u8 0), .lit (.int .u8 0), .lit (.int .u8 0), .lit (.int .u8 0), .lit (.int .u8 0), .lit (.int .u8 0), .lit (.int .u8 0), .lit (.int .u8 0), .lit (.int .u8 0), .lit (.int .u8 0), .lit (.int .u8 0), .lit (.int .u8 0), .lit (.int .u8 0), .lit (.int .u8 0), .lit (.int .u8 0), .lit (.int .u8 0), .lit (.int .u8 0), .lit (.int .u8 0), .lit (.int .u8 0), .lit (.int .u8 0), .lit (.int .u8 0), .lit (.int .u8 0), .lit (.int .u8 0), .lit (.int .u8 0), .lit (.int .u8 0), .lit (.int .u8 0), .lit (.int .u8 0), .lit (.int .u8 0)], .lit (.int .u64 0), .nil], [], places) := ⟨[], by kernel_rfl⟩
set_option maxRecDepth 100000 in
theorem hashResumes_lifted (os : Os) (started : os.Started) (H : Type) (enc : TypeId × Value → H) (F : Stop.Interp) :
    ReturnsInHanded {} Tryd.checked os 4 .any ((OpenSpec.ofChange Rows.hashResumesSpec).preRow enc Tryd.prog Tryd.f4 Rows.hashResumesRow.domain false Rows.hashResumesRow.laid) (((OpenSpec.ofChange Rows.hashResumesSpec).at F).post enc Tryd.prog Tryd.f4 false true false false) := by
  obtain ⟨places, hx⟩ := hashResumes_reads os enc
  refine returnsInHanded_of_row (C := Tryd.checked) (s := (OpenSpec.ofChange Rows.hashResumesSpec)) Tryd.own started (by kernel_rfl) Tryd.func4
    (witness_row_at (enc := enc) (C := Tryd.checked) false (World.doorLaid Tryd.prog 14 os) #[.agg #[.int .u8 0, .int .u8 0, .int .u8 0, .int .u8 0, .int .u8 0, .int .u8 0, .int .u8 0, .int .u8 0, .int .u8 0, .int .u8 0, .int .u8 0, .int .u8 0, .int .u8 0, .int .u8 0, .int .u8 0, .int .u8 0, .int .u8 0, .int .u8 0, .int .u8 0, .int .u8 0, .int .u8 0, .int .u8 0, .int .u8 0, .int .u8 0, .int .u8 0, .int .u8 0, .int .u8 0, .int .u8 0, .int .u8 0, .int .u8 0, .int .u8 0, .int .u8 0], .int .u64 0, .slice none 0 0] rfl (by kernel_rfl) (by kernel_rfl) (by kernel_rfl)
      (OpenSpec.preRow_of_cond 8 hx (by kernel_rfl) (fun k hk => by cases hk) (by kernel_rfl) (hashResumes_met os))) ?_
  intro W base args ds gs before hval0 hW _ hcond hsz0 hL _ _
  have hval : ∀ (j : Nat) t v, Tryd.f4.params[j]? = some t → args[j]? = some v → Value.okWide Tryd.prog W .any base t v := hval0
  have hsz : (DataW.weightsEach Tryd.prog (Tryd.f4.params.toList ++ Rows.hashResumesSpec.plain.varTypes Tryd.prog) (ds ++ gs)).all (· ≤ reachBytes) = true := hsz0
  have hW' := hW
  obtain ⟨p, q, hA0, hV, rfl, hfz, hnd⟩ := hW
  have hA : DataW.TrodAll enc Tryd.prog W 0 (fun _ => true) true Tryd.f4.params.toList args.toList ds p := hA0
  rw [Tryd.params4] at hA hval hsz
  obtain ⟨v0, v1, v2, d0, d1, d2, p0, p1, p2, rfl, rfl, rfl, h0, h1, h2⟩ := trodAll_three hA
  obtain ⟨rfl, rfl⟩ := trodVars_none hV
  simp only [List.append_nil] at hW'
  have hlt : ∀ x ∈ p0 ++ p1 ++ p2, x.block < W.heap.size := fun x hx => by simpa using hW'.lt x (by simpa using hx)
  obtain ⟨xs0, l0, rfl, rfl, rfl, w0⟩ := open_arr u_d32 Tryd.uU8 Tryd.cellsU8 cellsD32 (hval 0 31 v0 rfl rfl) h0
  obtain ⟨x1, rfl, rfl, rfl, w1⟩ := open_int uU64 (hval 1 23 v1 rfl rfl) h1
  have hk2 : ∀ W' : World, Below W.heap.size W W' → DataW.Trod enc Tryd.prog W' 0 (fun b => decide (b < W.heap.size)) true 22 v2 d2 p2 := fun W' hn => Below.trod Tryd.laidOut (by kernel_rfl) (of_decide_eq_true (by kernel_rfl)) h2 hn (fun x hx => hlt x (by simp [hx]))
  obtain ⟨a2, n2, c2, rfl⟩ := okWide_slice Tryd.uBytes (hval 2 22 v2 rfl rfl)
  obtain ⟨fuel2, hf2⟩ := h2
  obtain ⟨l2, low2, hI2, len2⟩ := by_of_trod (u := .slice a2 n2 c2) (by simpa [Value.cells] using hf2)
  have z2 : l2.length ≤ 140737488351232 := by
    obtain ⟨a', c', e, _⟩ := hI2
    have en : n2 = l2.length := by cases e; rfl
    rw [← en]
    rcases len_of_trod (by simpa [Value.cells] using hf2) with ⟨_, h⟩ | ⟨es, sp, hd, h⟩
    · omega
    · simp only at hd
      subst hd
      have := sized_slice hsz (j := 2) (t := 22) (e := 5) rfl rfl Tryd.uBytes
      rw [Tryd.bytesU8] at this
      simp only [reachBytes] at this
      omega
  refine (hashResumes_law xs0 l0 (fun z hz => byte_of_wf (w0 z hz)) x1 (word_of_wf w1) _ l2 low2 z2 W hI2 (ktab_two hL) (rtab_two hL)).mono fun e W' ⟨he, hg⟩ => ?_
  subst he
  exact ⟨_, rfl, _, _, _, [], _, [], hW', trodAll_mk1 (shut_bool Tryd.underlying4 _), trodAll_mk3 (shut_arr u_d32 Tryd.uU8 Tryd.cellsU8 cellsD32 l0 w0) (shut_int uU64 w1) (hk2 _ hg), rfl, hg.frame _, fun h => by cases h⟩

theorem hashResumes_holds : Rows.HashResumesSaid :=
  OpenClaim.holds_of_cond 4 Tryd.f4 rfl rfl rfl rfl rfl rfl rfl ⟨rfl, rfl, rfl, rfl, rfl⟩ rfl rfl rfl rfl rfl (by kernel_rfl) Tryd.func4 (by kernel_rfl)
    (of_decide_eq_true (by kernel_rfl)) (by unfold Func.isWrapper; first | (rw [if_pos (by decide +kernel)]; kernel_rfl) | (rw [if_neg (by decide +kernel)]; exact ⟨rfl, rfl⟩))
    (fun os started H enc _ F => by rw [OpenClaim.pre_eq_preRow]; exact hashResumes_lifted os started H enc F)

theorem hashResumes_card : Rows.HashResumesCardSaid :=
  Claim7.holds_tied_plain_at .later [] _ _ _ _ hashResumes_holds (fun _ h => by cases h) (by kernel_rfl) (fun _ h => by cases h) hashResumes_row_tie rfl ⟨rfl, rfl⟩ (by kernel_rfl) rfl
    (fun f fn hf hfn => by
      obtain rfl : f = 4 := Option.some.inj ((show Tryd.prog.funcNamed "sealring/sealringlaw.HashResumes" = some 4 by kernel_rfl).symm.trans hf) |>.symm
      obtain rfl : fn = Tryd.f4 := (Option.some.inj (Tryd.func4.symm.trans hfn)).symm
      exact ⟨by kernel_rfl, fun j t ht => by
        rw [Tryd.params4] at ht
        have hm : t ∈ [31, 23, 22] := by simpa using Array.mem_of_getElem? ht
        have hall : ([31, 23, 22].all fun u => !Tryd.prog.wantsStandIn u) = true := by kernel_rfl
        exact (show Tryd.prog.wantsStandIn t = false by simpa using List.all_eq_true.1 hall t hm)⟩)
    (by kernel_rfl)
#print axioms hashResumes_card
end Go.Proofs.YthaipnjnkkdfbaaDoor
