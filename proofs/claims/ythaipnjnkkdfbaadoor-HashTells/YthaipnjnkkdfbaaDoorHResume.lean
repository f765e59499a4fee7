/- The contract of hash.Resume. -/
import Derived.Test.YthaipnjnkkdfbaaDoorHLaw
namespace Go.Proofs.YthaipnjnkkdfbaaDoor
open Go.RowKit
set_option linter.unusedSimpArgs false
/-- The words of a digest. -/
def w8of (d : List Nat) : R8 := ⟨wd d 0, wd d 1, wd d 2, wd d 3, wd d 4, wd d 5, wd d 6, wd d 7⟩
/-- The first k words are a digest's, the others New's. -/
def fW (d : List Nat) (k : Nat) : List (BitVec 32) := (List.range 8).map fun j => if j < k then wd d j else IV.list.getD j 0
def cL (L : List (BitVec 32)) (R : List Nat) (c : Nat) : List Value := L.map uw ++ (R.map b8 ++ [.int .u64 (c : Int)])
theorem cL_list (H : R8) (R : List Nat) (c : Nat) : cL H.list R c = cS H R c := rfl
theorem fW_length (d : List Nat) (k : Nat) : (fW d k).length = 8 := by simp [fW]
theorem fW_zero (d : List Nat) : fW d 0 = IV.list := rfl
theorem fW_all (d : List Nat) : fW d 8 = (w8of d).list := rfl
theorem fW_set (d : List Nat) (k : Nat) (h : k < 8) : (fW d k).set k (wd d k) = fW d (k + 1) := by
  apply List.ext_getElem?
  intro j
  rw [List.getElem?_set, fW_length]
  by_cases hj : j < 8
  · have g := fun k => (by simp [fW, hj] : (fW d k)[j]? = some (if j < k then wd d j else IV.list.getD j 0))
    rw [g, g]
    by_cases e : k = j
    · subst e; simp [h]
    · rw [if_neg e]
      by_cases l : j < k
      · rw [if_pos l, if_pos (by omega)]
      · rw [if_neg l, if_neg (by omega)]
  · rw [List.getElem?_eq_none (by rw [fW_length]; omega), List.getElem?_eq_none (by rw [fW_length]; omega), if_neg (by omega)]
theorem Blk.setL {w : World} {k j : Nat} {L : List (BitVec 32)} {R : List Nat} {c : Nat} {x : BitVec 32} (h : Blk w k (cL L R c)) (hj : j < L.length) : Blk (w.setCell ⟨k, j, none⟩ (uw x)) k (cL (L.set j x) R c) := by
  have := h.set j (uw x) (by simp [cL]; omega)
  have e : (cL L R c).set j (uw x) = cL (L.set j x) R c := by
    rw [cL, List.set_append_left _ _ (by simpa using hj), cL, List.map_set]
  rwa [e] at this
theorem results_two {P : Program} {fn : Func} {tmps : Array Value} {s s' : Tmp} {t : TypeId} {b : Nat} {cs : List Value} {d : TypeDesc} {W : World} {v : Value} (hr : fn.results = #[.cell s t, .tmp s']) (ht : tmps[s]?.getD undef = .pointer (some ⟨b, 0, none⟩)) (hv : tmps[s']?.getD undef = v) (hc : W.rangeAt b 0 cs)
    (hu : P.underlying t = some d) (hd : d.isRow = true) (hi : (P.info? t).map (·.size) = some cs.length) : (results fn tmps).run P W = .ok (.tuple #[.agg cs.toArray, v]) W := by
  have h1 := run_loadVar_mid (P := P) W b 0 t cs d hc hu hd hi
  simp [results, hr, ht, hv, asAddr, h1]
theorem cntS_nil (n : Nat) (hn : n < 18446744073709551616) : cntS n [] = n := by unfold cntS; simp; omega
theorem st_nil (H : R8) (n : Nat) : cS (wordsS H []) (restS []) (cntS n []) = cS H (List.replicate 64 0) (cntS n []) := rfl
set_option maxRecDepth 20000 in
set_option maxHeartbeats 4000000 in
theorem resume_bad (d : List Nat) (n : Nat) (h64 : ¬ n % 64 = 0) (w : World) :
    Calls Tryd.prog 15 #[vB d, .int .u64 n] w fun e w' => e = .returned (.tuple #[stV IV 0 [], .int .i64 1]) ∧ Below w.heap.size w w' := by
  have t1 : ¬ (n : Int) % 64 = 0 := by omega
  have t2 : ((n : Int) % 64 == 0) = false := by simpa using t1
  clear h64
  obtain ⟨ds, hu, hr⟩ := u_state'
  go_enter Tryd.func15, Tryd.ntmps15
  go_wp2_with (simp only [zero_state])
  obtain ⟨x0, x1, x2⟩ := al2 w (d.map b8).toArray zS.toArray 31 28
  have X1 : Hid (Blk _ _ zS) := x1
  have X2 : Hid (Below _ _ _) := x2
  clear x0 x1 x2
  generalize (w.alloc (Obj.cells (d.map b8).toArray 31)).alloc (Obj.cells zS.toArray 28) = w1 at *
  refine (new_fun _).mono ?_
  rintro e w2 ⟨rfl, hb2⟩
  have Y1 : Hid (Blk w2 (w.heap.size + 1) zS) := X1.out.up hb2 X1.out.lt
  have D2 : Hid (Below w.heap.size w w2) := X2.out.trans (hb2.mono X2.out.size)
  clear hb2 X1 X2
  go_wp2_with (refine wp_mkS rfl rfl 6 (.tmp 8) rfl rfl rfl rfl IV 0 [] rfl rfl ?_)
  intro w3 s3 hb3
  have S3 : Hid (StAt w3 w2.heap.size IV 0 []) := s3
  have Y3 : Hid (Blk w3 (w.heap.size + 1) zS) := Y1.out.up hb3 Y1.out.lt
  have D3 : Hid (Below w.heap.size w w3) := D2.out.trans (hb3.mono D2.out.size)
  clear s3 hb3 Y1 D2
  generalize w2.heap.size = ks at *
  go_wp2_with (first | refine wp_ldS rfl (.tmp 6) rfl ks rfl S3.out ?_ | refine wp_stS rfl (.tmp 4) (.tmp 12) rfl (w.heap.size + 1) rfl IV 0 [] rfl _ Y3.out zS_length ?_)
  intro w4 s4 b4 _
  have S4 : Hid (StAt w4 (w.heap.size + 1) IV 0 []) := s4
  have D4 : Hid (Below w.heap.size w w4) := b4 _ _ D3.out (by omega)
  clear s4 b4
  go_wp2_with fail
  refine bodyPost_ret (v := .tuple #[stV IV 0 [], .int .i64 1]) ?_ rfl ⟨rfl, D4.out⟩
  exact results_two (b := w.heap.size + 1) rfl rfl rfl (Blk.all S4.out) hu hr (info_state.trans (congrArg some (cS_length _ _ _ (restS_length _)).symm))
set_option maxRecDepth 20000 in
set_option maxHeartbeats 4000000 in
theorem resume_ok (d : List Nat) (hd : d.length = 32) (ld : ∀ x ∈ d, x < 256) (n : Nat) (hn : n < 18446744073709551616) (h64 : n % 64 = 0) (w : World) :
    Calls Tryd.prog 15 #[vB d, .int .u64 n] w fun e w' => e = .returned (.tuple #[stV (w8of d) n [], .int .i64 0]) ∧ Below w.heap.size w w' := by
  have t1 : (n : Int) % 64 = 0 := by omega
  have LD : Hid (∀ j, d.getD j 0 < 256) := low_at ld
  have HD : Hid (d.length = 32) := hd
  have CN : Hid (cntS n [] = n) := cntS_nil n hn
  clear h64 ld hd hn
  obtain ⟨ds, hu, hr⟩ := u_state'
  go_enter Tryd.func15, Tryd.ntmps15
  go_wp2_with (simp only [zero_state])
  obtain ⟨x0, x1, x2⟩ := al2 w (d.map b8).toArray zS.toArray 31 28
  have X0 : Hid (Blk _ _ (d.map b8)) := x0
  have X1 : Hid (Blk _ _ zS) := x1
  have X2 : Hid (Below _ _ _) := x2
  clear x0 x1 x2
  generalize (w.alloc (Obj.cells (d.map b8).toArray 31)).alloc (Obj.cells zS.toArray 28) = w1 at *
  refine (new_fun _).mono ?_
  rintro e w2 ⟨rfl, hb2⟩
  have Y0 : Hid (Blk w2 w.heap.size (d.map b8)) := X0.out.up hb2 X0.out.lt
  have Y1 : Hid (Blk w2 (w.heap.size + 1) zS) := X1.out.up hb2 X1.out.lt
  have D2 : Hid (Below w.heap.size w w2) := X2.out.trans (hb2.mono X2.out.size)
  clear hb2 X1 X2 X0
  go_wp2_with (refine wp_mkS rfl rfl 6 (.tmp 8) rfl rfl rfl rfl IV 0 [] rfl rfl ?_)
  intro w3 s3 hb3
  have S3 : Hid (Blk w3 w2.heap.size (cL (fW d 0) (List.replicate 64 0) 0)) := s3
  have Y3 : Hid (Blk w3 (w.heap.size + 1) zS) := Y1.out.up hb3 Y1.out.lt
  have Z3 : Hid (Blk w3 w.heap.size (d.map b8)) := Y0.out.up hb3 Y0.out.lt
  have D3 : Hid (Below w.heap.size w w3) := D2.out.trans (hb3.mono D2.out.size)
  have ky := Y1.out.lt
  clear s3 hb3 Y1 D2 Y0
  generalize w2.heap.size = ks at *
  go_wp2_with fail
  clear t1
  go_loopw [13] (fun i wr => ∃ k : Nat, k ≤ 8 ∧ i = .int .i64 k ∧ Hid (Blk wr w.heap.size (d.map b8)) ∧ Hid (Blk wr (w.heap.size + 1) zS) ∧ Hid (Blk wr ks (cL (fW d k) (List.replicate 64 0) 0)) ∧ Hid (Below w.heap.size w wr)) (fun i _ => 8 - (intOf i).toNat)
  case atStart => exact ⟨0, by omega, rfl, Z3, Y3, S3, D3⟩
  case round =>
    clear Z3 Y3 S3 D3
    obtain ⟨k, hk, rfl, b0, b1, b2, hb⟩ := hrel
    by_cases hlt : k < 8
    · have l4 := HD.out
      have c0 := byte_at b0.out (j := 4 * k) (by omega)
      have c1 := byte_at b0.out (j := 4 * k + 1) (by omega)
      have c2 := byte_at b0.out (j := 4 * k + 2) (by omega)
      have c3 := byte_at b0.out (j := 4 * k + 3) (by omega)
      have s0 := slice_arr u_d32 info_u8 .i64 (4 * (k : Int)) w.heap.size 0 (4 * k) (by omega) (by omega)
      rw [Nat.zero_add] at s0
      have C : Hid _ := And.intro c0 (And.intro c1 (And.intro c2 c3))
      have S0 : Hid _ := s0
      clear c0 c1 c2 c3 s0 l4
      go_wp2_with (simp only [S0.out])
      refine (word_fun _ _ _ _ _ _ _ _ (LD.out _) (LD.out _) (LD.out _) (LD.out _) (by omega) _ C.out.1 C.out.2.1 C.out.2.2.1 C.out.2.2.2).mono ?_
      rintro e w1 ⟨rfl, hb1⟩
      have z1 := hb.out.size
      have d0 := b0.out.up hb1 b0.out.lt
      have d1 := b1.out.up hb1 b1.out.lt
      have d2 := b2.out.up hb1 b2.out.lt
      have db := hb.out.trans (hb1.mono z1)
      have g0 := d2.cell k (uw ((fW d k).getD k 0)) (by rw [cL, List.getElem?_append_left (by simp [fW_length]; exact hlt)]; simp [List.getD_eq_getElem?_getD, fW_length, hlt])
      have g1 := d2.fz k
      have D0 : Hid _ := d0.apart1 (k' := ks) (o := k) (v := uw (wd d k)) (by omega)
      have D1 : Hid _ := d1.apart1 (k' := ks) (o := k) (v := uw (wd d k)) (by omega)
      have D2 : Hid _ := d2.setL (j := k) (x := wd d k) (by rw [fW_length]; exact hlt)
      rw [fW_set d k hlt] at D2
      have DB : Hid (Below w.heap.size w (w1.setCell ⟨ks, k, none⟩ (uw (wd d k)))) := db.setCell (by show w.heap.size ≤ ks; omega) _
      clear d0 d1 d2 db hb1 b0 b1 b2 hb C S0
      go_wp2_with fail
      go_roundw
      case rel => exact ⟨k + 1, by omega, by go_num, D0, D1, D2, DB⟩
      case measure => simp [intOf]; omega
    · obtain rfl : k = 8 := by omega
      clear hlt hk
      have b3 : Blk wr ks (cS (w8of d) (List.replicate 64 0) 0) := b2.out
      have c72 := b3.cntAt (by simp)
      have f72 := b3.fz 72
      have B4 : Hid (StAt (wr.setCell ⟨ks, 72, none⟩ (.int .u64 (n : Int))) ks (w8of d) n []) := by
        have := b3.cnt (by simp) n rfl
        unfold StAt
        rw [st_nil, CN.out]
        exact this
      have B1 : Hid (Blk (wr.setCell ⟨ks, 72, none⟩ (.int .u64 (n : Int))) (w.heap.size + 1) zS) := b1.out.apart1 (by omega)
      have DB : Hid (Below w.heap.size w (wr.setCell ⟨ks, 72, none⟩ (.int .u64 (n : Int)))) := hb.out.setCell (by show w.heap.size ≤ ks; omega) _
      clear b3 b0 b1 b2 hb
      go_wp2_with (first | refine wp_ldS rfl (.tmp 6) rfl ks rfl B4.out ?_ | refine wp_stS rfl (.tmp 4) (.tmp 26) rfl (w.heap.size + 1) rfl (w8of d) n [] rfl _ B1.out zS_length ?_)
      intro w4 s4 b4 _
      have S4 : Hid (StAt w4 (w.heap.size + 1) (w8of d) n []) := s4
      have D4 : Hid (Below w.heap.size w w4) := b4 _ _ DB.out (by omega)
      clear s4 b4
      go_wp2_with fail
      refine bodyPost_ret (v := .tuple #[stV (w8of d) n [], .int .i64 0]) ?_ rfl ⟨rfl, D4.out⟩
      exact results_two (b := w.heap.size + 1) rfl rfl rfl (Blk.all S4.out) hu hr (info_state.trans (congrArg some (cS_length _ _ _ (restS_length _)).symm))
end Go.Proofs.YthaipnjnkkdfbaaDoor
