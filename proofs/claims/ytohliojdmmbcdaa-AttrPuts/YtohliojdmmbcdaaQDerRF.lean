/- The contract of sealringref.FirstItem. -/
import Derived.Test.YtohliojdmmbcdaaQDerFi
import Derived.Laws.IdiomStrings
namespace Go.Proofs.Ytohliojdmmbcdaa
open Go.RowKit
set_option linter.unusedSimpArgs false
theorem sOf_get {b : List Nat} (low : ∀ x ∈ b, x < 256) (j : Nat) (h : j < (sOf b).size) : ((sOf b)[j]'h).toNat = b.getD j 0 := by
  have hj : j < b.length := by rw [sOf_size] at h; exact h
  have e : (sOf b)[j]'h = UInt8.ofNat b[j] := by
    simp [sOf, ByteArray.getElem_eq_getElem_data]
  rw [e, UInt8.toNat_ofNat', Nat.mod_eq_of_lt (low _ (List.getElem_mem hj)), List.getD_eq_getElem?_getD, List.getElem?_eq_getElem hj]
  rfl
theorem sOf_cut {b : List Nat} (s t : Nat) (_ : t ≤ b.length) (_ : s ≤ t) : (sOf b).extract s t = sOf ((b.drop s).take (t - s)) := by
  apply ByteArray.ext
  apply Array.ext'
  simp [sOf, List.take_drop]
theorem by_row {w : World} {k cap : Nat} {xs : List Nat} {m : Nat × Nat} (low : ∀ x ∈ xs, x < 256) (h : w.heap[k]? = some (.cells (bytesRow (sOf xs) cap) 5 m)) (hc : xs.length ≤ cap) : Bk w (.slice (some ⟨k, 0, none⟩) xs.length cap) xs := by
  refine ⟨By.of_cells hc fun j hj => ?_, fun g hg => ?_⟩
  · have hlow := low _ (List.getElem_mem hj)
    unfold World.cell?
    rw [h]
    unfold bytesRow
    simp only
    rw [Array.getElem?_append_left (by simp [sOf]; exact hj)]
    simp [sOf, hj, Nat.mod_eq_of_lt hlow]
  · obtain rfl : k = g := Option.some.inj hg
    exact ⟨_, _, h⟩
theorem Bk.cast {w : World} {a : Option Addr} {n c : Nat} {xs : List Nat} (h : xs.length = n) (hb : Bk w (.slice a xs.length c) xs) : Bk w (.slice a n c) xs := h ▸ hb
theorem top3 (w : World) (o1 o2 o3 : Obj) : ((((w.alloc o1).alloc o2).alloc o3).drew.drew).heap[w.heap.size + 1 + 1]? = some o3 := by
  have := heap_alloc_new ((w.alloc o1).alloc o2) o3
  rw [show ((w.alloc o1).alloc o2).heap.size = w.heap.size + 1 + 1 by simp] at this
  exact this
set_option maxRecDepth 20000 in
set_option maxHeartbeats 2000000 in
theorem firstItem_one (b : List Nat) (low : ∀ x ∈ b, x < 256) (p0 : ¬ b.length < 2) (p1 : b.getD 1 0 < 128) (w : World) :
    Calls Try.prog 44 #[.string (sOf b)] w fun e w' => FirstIs b e w' ∧ Below w.heap.size w w' := by
  have E1 : Hid (firstS b = finS b (b.getD 1 0) 2) := by
    have : firstS b = finS b (b.getD 1 0) 2 := by unfold firstS; rw [if_neg p0, if_pos p1]
    exact this
  have g1 : ∀ h, ((sOf b)[1]'h).toNat = b.getD 1 0 := sOf_get low 1
  have g0 : ∀ h, ((sOf b)[0]'h).toNat = b.getD 0 0 := sOf_get low 0
  have ss : (sOf b).size = b.length := sOf_size b
  have BB : Hid (∀ n t, t ≤ b.length → n ≤ t → (sOf b).extract n t = sOf ((b.drop n).take (t - n))) := fun n t h1 h2 => sOf_cut n t h1 h2
  have LO : Hid (∀ x ∈ b, x < 256) := low
  obtain ⟨tg, htg⟩ : ∃ tg, tg = b.getD 0 0 := ⟨_, rfl⟩
  have TG : Hid (b.getD 0 0 = tg) := htg.symm
  rw [← htg] at g0
  clear htg low
  generalize sOf b = s at g1 g0 ss BB ⊢
  generalize b.getD 1 0 = d at *
  have z1 : ¬ (s.size : Int) < 2 := by omega
  have z2 : 1 < s.size := by omega
  have z3 : 0 < s.size := by omega
  have d0 : (d : Int) < 128 := by omega
  have d1 : ¬ (d : Int) = 128 := by omega
  have d2 : ((d : Int) == 128) = false := by simp [d1]
  have d3 : ¬ (d : Int) > 130 := by omega
  have d4 : ¬ (d : Int) > 128 := by omega
  have d5 : (0 : Int) ≤ (d : Int) := by omega
  clear d1
  obtain ⟨t, ht⟩ : ∃ t, t = 2 + d := ⟨_, rfl⟩
  have t1 : (2 : Int) + (d : Int) = (t : Int) := by omega
  have HT : Hid (t = 2 + d) := ht
  have SS : Hid (s.size = b.length) := ss
  have d8 : (d : Int) ≤ 65535 := by omega
  by_cases p6 : 4096 < d
  · exfalso; omega
  · have d6 : ¬ (d : Int) > 4096 := by omega
    by_cases p2 : b.length < t
    · have q2 : (t : Int) > (s.size : Int) := by omega
      have E2 : Hid (firstS b = .inl 3) := by
        have := E1.out
        unfold finS at this
        rw [if_neg p6, ← HT.out, if_pos p2] at this
        exact this
      clear ss ht E1 BB
      go_enter Try.func44, Try.ntmps44
      go_wp2_with fail
      refine bodyPost_ret (v := .tuple #[.agg #[.int .u8 0, .slice none 0 0], i64 0, i64 3]) (by simp (maxDischargeDepth := 8) [results, Try.results44, go_sem]) rfl ⟨?_, ?_⟩
      · exact .inl ⟨3, E2.out, rfl⟩
      · exact ((Below.refl _ _).alloc (Nat.le_refl _) _).alloc (by simp) _
    · have q2 : ¬ (t : Int) > (s.size : Int) := by omega
      have q3 : t ≤ s.size := by omega
      have q4 : 2 ≤ t := by omega
      have E2 : Hid (firstS b = .inr (⟨tg, (b.drop 2).take d⟩, t)) := by
        have := E1.out
        unfold finS at this
        rw [if_neg p6, ← HT.out, if_neg p2, TG.out] at this
        exact this
      have EX : Hid (s.extract 2 t = sOf ((b.drop 2).take d)) := by
        have := BB.out 2 t (by omega) (by omega)
        rw [show t - 2 = d by omega] at this
        exact this
      have q5 : t - 2 = d := by omega
      have TL : Hid (((b.drop 2).take d).length = d) := by
        have : ((b.drop 2).take d).length = d := by simp; omega
        exact this
      have LL : Hid (∀ x ∈ (b.drop 2).take d, x < 256) := (fun x hx => LO.out x (List.mem_of_mem_drop (List.mem_of_mem_take hx)) : ∀ x ∈ (b.drop 2).take d, x < 256)
      clear ss ht E1 BB
      have hcv : ∀ (W : World) (z : ByteArray), (convert 9 33 (.string z)).run Try.prog W = _ := fun W z => run_bytes_of_string W 9 33 5 z Try.uStr Try.uBytes Try.uU8
      go_enter Try.func44, Try.ntmps44
      go_wp2_with fail
      go_region
      clear hcv
      rw [EX.out]
      generalize hcap : grownCap _ d 0 5 = cap
      have HG : Hid (d ≤ cap) := by
        have := grownCap_ge ((w.alloc (Obj.cells #[Value.int IntKind.u8 0, Value.slice none 0 0] 62)).alloc (Obj.cells #[Value.int IntKind.u8 0, Value.slice none 0 0] 62)).drew d 0 5
        rw [hcap] at this
        exact this
      clear hcap
      generalize hrow : bytesRow (sOf ((b.drop 2).take d)) cap = row
      have HR : Hid _ := hrow
      clear hrow
      go_wp2_with fail
      refine bodyPost_ret (v := .tuple #[.agg #[b8 tg, .slice (some ⟨w.heap.size + 1 + 1, 0, none⟩) d cap], i64 t, i64 0]) (by simp (maxDischargeDepth := 8) [results, Try.results44, go_sem]) rfl ⟨?_, ?_⟩
      · refine .inr ⟨_, t, _, E2.out, rfl, ?_⟩
        refine Bk.cast TL.out (by_row (m := (row.size, row.size + 1)) LL.out ?_ (by rw [TL.out]; exact HG.out))
        rw [HR.out]
        exact top3 w _ _ _
      · exact (((((Below.refl _ _).alloc (Nat.le_refl _) _).alloc (by simp) _).alloc (by simp; omega) _).drew).drew
set_option maxRecDepth 20000 in
set_option maxHeartbeats 4000000 in
theorem firstItem_two (b : List Nat) (low : ∀ x ∈ b, x < 256) (p0 : ¬ b.length < 2) (p1 : b.getD 1 0 = 129) (w : World) :
    Calls Try.prog 44 #[.string (sOf b)] w fun e w' => FirstIs b e w' ∧ Below w.heap.size w w' := by
  have ss : (sOf b).size = b.length := sOf_size b
  have BB : Hid (∀ n t, t ≤ b.length → n ≤ t → (sOf b).extract n t = sOf ((b.drop n).take (t - n))) := fun n t h1 h2 => sOf_cut n t h1 h2
  have LO : Hid (∀ x ∈ b, x < 256) := low
  have g2 : ∀ h, ((sOf b)[2]'h).toNat = b.getD 2 0 := sOf_get low 2
  have g1 : ∀ h, ((sOf b)[1]'h).toNat = b.getD 1 0 := sOf_get low 1
  have g0 : ∀ h, ((sOf b)[0]'h).toNat = b.getD 0 0 := sOf_get low 0
  obtain ⟨tg, htg⟩ : ∃ tg, tg = b.getD 0 0 := ⟨_, rfl⟩
  have TG : Hid (b.getD 0 0 = tg) := htg.symm
  rw [← htg] at g0
  have l2 : b.getD 2 0 < 256 := by
    by_cases hj : 2 < b.length
    · rw [List.getD_eq_getElem?_getD, List.getElem?_eq_getElem hj]
      exact low _ (List.getElem_mem hj)
    · simp [List.getD_eq_getElem?_getD, List.getElem?_eq_none (Nat.le_of_not_lt hj)]
  have EE : Hid (firstS b = if b.length < 3 then .inl 3 else if b.getD 2 0 < 128 then .inl 4 else finS b (b.getD 2 0) 3) := by
    have : firstS b = if b.length < 3 then .inl 3 else if b.getD 2 0 < 128 then .inl 4 else finS b (b.getD 2 0) 3 := by
      unfold firstS; rw [if_neg p0, if_neg (by omega), if_pos p1]
    exact this
  rw [p1] at g1
  clear htg low p1
  generalize sOf b = s at g1 g0 g2 ss BB ⊢
  generalize b.getD 2 0 = d at *
  have z1 : ¬ (s.size : Int) < 2 := by omega
  have z2 : 1 < s.size := by omega
  have z3 : 0 < s.size := by omega
  have d5 : (0 : Int) ≤ (d : Int) := by omega
  by_cases p3 : b.length < 3
  · have E2 : Hid (firstS b = .inl 3) := by
      have := EE.out
      rw [if_pos p3] at this
      exact this
    have q1 : (2 : Int) ≥ (s.size : Int) := by omega
    clear EE ss BB
    go_enter Try.func44, Try.ntmps44
    go_wp2_with fail
    refine bodyPost_ret (v := .tuple #[.agg #[.int .u8 0, .slice none 0 0], i64 0, i64 3]) (by simp (maxDischargeDepth := 8) [results, Try.results44, go_sem]) rfl ⟨?_, ?_⟩
    · exact .inl ⟨3, E2.out, rfl⟩
    · exact ((Below.refl _ _).alloc (Nat.le_refl _) _).alloc (by simp) _
  · have q1 : ¬ (2 : Int) ≥ (s.size : Int) := by omega
    have z4 : 2 < s.size := by omega
    by_cases p4 : d < 128
    · have E2 : Hid (firstS b = .inl 4) := by
        have := EE.out
        rw [if_neg p3, if_pos p4] at this
        exact this
      have q6 : (d : Int) < 128 := by omega
      clear EE ss BB
      go_enter Try.func44, Try.ntmps44
      go_wp2_with fail
      refine bodyPost_ret (v := .tuple #[.agg #[.int .u8 0, .slice none 0 0], i64 0, i64 4]) (by simp (maxDischargeDepth := 8) [results, Try.results44, go_sem]) rfl ⟨?_, ?_⟩
      · exact .inl ⟨4, E2.out, rfl⟩
      · exact ((Below.refl _ _).alloc (Nat.le_refl _) _).alloc (by simp) _
    · have E1 : Hid (firstS b = finS b d 3) := by
        have := EE.out
        rw [if_neg p3, if_neg p4] at this
        exact this
      have q6 : ¬ (d : Int) < 128 := by omega
      clear EE p4
      obtain ⟨t, ht⟩ : ∃ t, t = 3 + d := ⟨_, rfl⟩
      have t1 : (3 : Int) + (d : Int) = (t : Int) := by omega
      have HT : Hid (t = 3 + d) := ht
      have SS : Hid (s.size = b.length) := ss
      have d8 : (d : Int) ≤ 65535 := by omega
      by_cases p6 : 4096 < d
      · exfalso; omega
      · have d6 : ¬ (d : Int) > 4096 := by omega
        by_cases p2 : b.length < t
        · have q2 : (t : Int) > (s.size : Int) := by omega
          have E2 : Hid (firstS b = .inl 3) := by
            have := E1.out
            unfold finS at this
            rw [if_neg p6, ← HT.out, if_pos p2] at this
            exact this
          clear ss ht E1 BB
          go_enter Try.func44, Try.ntmps44
          go_wp2_with fail
          refine bodyPost_ret (v := .tuple #[.agg #[.int .u8 0, .slice none 0 0], i64 0, i64 3]) (by simp (maxDischargeDepth := 8) [results, Try.results44, go_sem]) rfl ⟨?_, ?_⟩
          · exact .inl ⟨3, E2.out, rfl⟩
          · exact ((Below.refl _ _).alloc (Nat.le_refl _) _).alloc (by simp) _
        · have q2 : ¬ (t : Int) > (s.size : Int) := by omega
          have q3 : t ≤ s.size := by omega
          have q4 : 3 ≤ t := by omega
          have E2 : Hid (firstS b = .inr (⟨tg, (b.drop 3).take d⟩, t)) := by
            have := E1.out
            unfold finS at this
            rw [if_neg p6, ← HT.out, if_neg p2, TG.out] at this
            exact this
          have EX : Hid (s.extract 3 t = sOf ((b.drop 3).take d)) := by
            have := BB.out 3 t (by omega) (by omega)
            rw [show t - 3 = d by omega] at this
            exact this
          have q5 : t - 3 = d := by omega
          have TL : Hid (((b.drop 3).take d).length = d) := by
            have : ((b.drop 3).take d).length = d := by simp; omega
            exact this
          have LL : Hid (∀ x ∈ (b.drop 3).take d, x < 256) := (fun x hx => LO.out x (List.mem_of_mem_drop (List.mem_of_mem_take hx)) : ∀ x ∈ (b.drop 3).take d, x < 256)
          clear ss ht E1 BB
          have hcv : ∀ (W : World) (z : ByteArray), (convert 9 33 (.string z)).run Try.prog W = _ := fun W z => run_bytes_of_string W 9 33 5 z Try.uStr Try.uBytes Try.uU8
          go_enter Try.func44, Try.ntmps44
          go_wp2_with fail
          go_region
          clear hcv
          rw [EX.out]
          generalize hcap : grownCap _ d 0 5 = cap
          have HG : Hid (d ≤ cap) := by
            have := grownCap_ge ((w.alloc (Obj.cells #[Value.int IntKind.u8 0, Value.slice none 0 0] 62)).alloc (Obj.cells #[Value.int IntKind.u8 0, Value.slice none 0 0] 62)).drew d 0 5
            rw [hcap] at this
            exact this
          clear hcap
          generalize hrow : bytesRow (sOf ((b.drop 3).take d)) cap = row
          have HR : Hid _ := hrow
          clear hrow
          go_wp2_with fail
          refine bodyPost_ret (v := .tuple #[.agg #[b8 tg, .slice (some ⟨w.heap.size + 1 + 1, 0, none⟩) d cap], i64 t, i64 0]) (by simp (maxDischargeDepth := 8) [results, Try.results44, go_sem]) rfl ⟨?_, ?_⟩
          · refine .inr ⟨_, t, _, E2.out, rfl, ?_⟩
            refine Bk.cast TL.out (by_row (m := (row.size, row.size + 1)) LL.out ?_ (by rw [TL.out]; exact HG.out))
            rw [HR.out]
            exact top3 w _ _ _
          · exact (((((Below.refl _ _).alloc (Nat.le_refl _) _).alloc (by simp) _).alloc (by simp; omega) _).drew).drew
set_option maxRecDepth 20000 in
set_option maxHeartbeats 4000000 in
theorem firstItem_three (b : List Nat) (low : ∀ x ∈ b, x < 256) (p0 : ¬ b.length < 2) (p1 : b.getD 1 0 = 130) (w : World) :
    Calls Try.prog 44 #[.string (sOf b)] w fun e w' => FirstIs b e w' ∧ Below w.heap.size w w' := by
  have ss : (sOf b).size = b.length := sOf_size b
  have BB : Hid (∀ n t, t ≤ b.length → n ≤ t → (sOf b).extract n t = sOf ((b.drop n).take (t - n))) := fun n t h1 h2 => sOf_cut n t h1 h2
  have LO : Hid (∀ x ∈ b, x < 256) := low
  have g2 : ∀ h, ((sOf b)[2]'h).toNat = b.getD 2 0 := sOf_get low 2
  have g1 : ∀ h, ((sOf b)[1]'h).toNat = b.getD 1 0 := sOf_get low 1
  have g0 : ∀ h, ((sOf b)[0]'h).toNat = b.getD 0 0 := sOf_get low 0
  obtain ⟨tg, htg⟩ : ∃ tg, tg = b.getD 0 0 := ⟨_, rfl⟩
  have TG : Hid (b.getD 0 0 = tg) := htg.symm
  rw [← htg] at g0
  have g3 : ∀ h, ((sOf b)[3]'h).toNat = b.getD 3 0 := sOf_get low 3
  have lw : ∀ j, b.getD j 0 < 256 := fun j => by
    by_cases hj : j < b.length
    · rw [List.getD_eq_getElem?_getD, List.getElem?_eq_getElem hj]
      exact low _ (List.getElem_mem hj)
    · simp [List.getD_eq_getElem?_getD, List.getElem?_eq_none (Nat.le_of_not_lt hj)]
  have l2 := lw 2
  have l3 := lw 3
  have EE : Hid (firstS b = if b.length < 4 then .inl 3 else if b.getD 2 0 * 256 + b.getD 3 0 < 256 then .inl 4 else finS b (b.getD 2 0 * 256 + b.getD 3 0) 4) := by
    have : firstS b = if b.length < 4 then .inl 3 else if b.getD 2 0 * 256 + b.getD 3 0 < 256 then .inl 4 else finS b (b.getD 2 0 * 256 + b.getD 3 0) 4 := by
      unfold firstS; rw [if_neg p0, if_neg (by omega), if_neg (by omega), if_pos p1]
    exact this
  rw [p1] at g1
  clear htg low p1 lw
  generalize sOf b = s at g1 g0 g2 g3 ss BB ⊢
  generalize b.getD 2 0 = da at *
  generalize b.getD 3 0 = db at *
  obtain ⟨d, hd⟩ : ∃ d, d = da * 256 + db := ⟨_, rfl⟩
  rw [← hd] at EE
  have a1 : (da : Int) * 256 + (db : Int) = (d : Int) := by omega
  have a2 : (da : Int) < 256 := by omega
  have a3 : (db : Int) < 256 := by omega
  have a4 : (0 : Int) ≤ (da : Int) := by omega
  have a5 : (0 : Int) ≤ (db : Int) := by omega
  have d9 : d ≤ 65535 := by omega
  clear hd
  have z1 : ¬ (s.size : Int) < 2 := by omega
  have z2 : 1 < s.size := by omega
  have z3 : 0 < s.size := by omega
  have d5 : (0 : Int) ≤ (d : Int) := by omega
  by_cases p3 : b.length < 4
  · have E2 : Hid (firstS b = .inl 3) := by
      have := EE.out
      rw [if_pos p3] at this
      exact this
    have q1 : (3 : Int) ≥ (s.size : Int) := by omega
    clear EE ss BB
    go_enter Try.func44, Try.ntmps44
    go_wp2_with fail
    refine bodyPost_ret (v := .tuple #[.agg #[.int .u8 0, .slice none 0 0], i64 0, i64 3]) (by simp (maxDischargeDepth := 8) [results, Try.results44, go_sem]) rfl ⟨?_, ?_⟩
    · exact .inl ⟨3, E2.out, rfl⟩
    · exact ((Below.refl _ _).alloc (Nat.le_refl _) _).alloc (by simp) _
  · have q1 : ¬ (3 : Int) ≥ (s.size : Int) := by omega
    have z4 : 2 < s.size := by omega
    have z5 : 3 < s.size := by omega
    by_cases p4 : d < 256
    · have E2 : Hid (firstS b = .inl 4) := by
        have := EE.out
        rw [if_neg p3, if_pos p4] at this
        exact this
      have q6 : (d : Int) < 256 := by omega
      clear EE ss BB
      go_enter Try.func44, Try.ntmps44
      go_wp2_with fail
      refine bodyPost_ret (v := .tuple #[.agg #[.int .u8 0, .slice none 0 0], i64 0, i64 4]) (by simp (maxDischargeDepth := 8) [results, Try.results44, go_sem]) rfl ⟨?_, ?_⟩
      · exact .inl ⟨4, E2.out, rfl⟩
      · exact ((Below.refl _ _).alloc (Nat.le_refl _) _).alloc (by simp) _
    · have E1 : Hid (firstS b = finS b d 4) := by
        have := EE.out
        rw [if_neg p3, if_neg p4] at this
        exact this
      have q6 : ¬ (d : Int) < 256 := by omega
      clear EE p4
      obtain ⟨t, ht⟩ : ∃ t, t = 4 + d := ⟨_, rfl⟩
      have t1 : (4 : Int) + (d : Int) = (t : Int) := by omega
      have HT : Hid (t = 4 + d) := ht
      have SS : Hid (s.size = b.length) := ss
      have d8 : (d : Int) ≤ 65535 := by omega
      by_cases p6 : 4096 < d
      · have d6 : (d : Int) > 4096 := by omega
        have E2 : Hid (firstS b = .inl 2) := by
          have := E1.out
          unfold finS at this
          rw [if_pos p6] at this
          exact this
        clear ss ht E1 BB
        go_enter Try.func44, Try.ntmps44
        go_wp2_with fail
        refine bodyPost_ret (v := .tuple #[.agg #[.int .u8 0, .slice none 0 0], i64 0, i64 2]) (by simp (maxDischargeDepth := 8) [results, Try.results44, go_sem]) rfl ⟨?_, ?_⟩
        · exact .inl ⟨2, E2.out, rfl⟩
        · exact ((Below.refl _ _).alloc (Nat.le_refl _) _).alloc (by simp) _
      · have d6 : ¬ (d : Int) > 4096 := by omega
        by_cases p2 : b.length < t
        · have q2 : (t : Int) > (s.size : Int) := by omega
          have E2 : Hid (firstS b = .inl 3) := by
            have := E1.out
            unfold finS at this
            rw [if_neg p6, ← HT.out, if_pos p2] at this
            exact this
          clear ss ht E1 BB
          go_enter Try.func44, Try.ntmps44
          go_wp2_with fail
          refine bodyPost_ret (v := .tuple #[.agg #[.int .u8 0, .slice none 0 0], i64 0, i64 3]) (by simp (maxDischargeDepth := 8) [results, Try.results44, go_sem]) rfl ⟨?_, ?_⟩
          · exact .inl ⟨3, E2.out, rfl⟩
          · exact ((Below.refl _ _).alloc (Nat.le_refl _) _).alloc (by simp) _
        · have q2 : ¬ (t : Int) > (s.size : Int) := by omega
          have q3 : t ≤ s.size := by omega
          have q4 : 4 ≤ t := by omega
          have E2 : Hid (firstS b = .inr (⟨tg, (b.drop 4).take d⟩, t)) := by
            have := E1.out
            unfold finS at this
            rw [if_neg p6, ← HT.out, if_neg p2, TG.out] at this
            exact this
          have EX : Hid (s.extract 4 t = sOf ((b.drop 4).take d)) := by
            have := BB.out 4 t (by omega) (by omega)
            rw [show t - 4 = d by omega] at this
            exact this
          have q5 : t - 4 = d := by omega
          have TL : Hid (((b.drop 4).take d).length = d) := by
            have : ((b.drop 4).take d).length = d := by simp; omega
            exact this
          have LL : Hid (∀ x ∈ (b.drop 4).take d, x < 256) := (fun x hx => LO.out x (List.mem_of_mem_drop (List.mem_of_mem_take hx)) : ∀ x ∈ (b.drop 4).take d, x < 256)
          clear ss ht E1 BB
          have hcv : ∀ (W : World) (z : ByteArray), (convert 9 33 (.string z)).run Try.prog W = _ := fun W z => run_bytes_of_string W 9 33 5 z Try.uStr Try.uBytes Try.uU8
          go_enter Try.func44, Try.ntmps44
          go_wp2_with fail
          go_region
          clear hcv
          rw [EX.out]
          generalize hcap : grownCap _ d 0 5 = cap
          have HG : Hid (d ≤ cap) := by
            have := grownCap_ge ((w.alloc (Obj.cells #[Value.int IntKind.u8 0, Value.slice none 0 0] 62)).alloc (Obj.cells #[Value.int IntKind.u8 0, Value.slice none 0 0] 62)).drew d 0 5
            rw [hcap] at this
            exact this
          clear hcap
          generalize hrow : bytesRow (sOf ((b.drop 4).take d)) cap = row
          have HR : Hid _ := hrow
          clear hrow
          go_wp2_with fail
          refine bodyPost_ret (v := .tuple #[.agg #[b8 tg, .slice (some ⟨w.heap.size + 1 + 1, 0, none⟩) d cap], i64 t, i64 0]) (by simp (maxDischargeDepth := 8) [results, Try.results44, go_sem]) rfl ⟨?_, ?_⟩
          · refine .inr ⟨_, t, _, E2.out, rfl, ?_⟩
            refine Bk.cast TL.out (by_row (m := (row.size, row.size + 1)) LL.out ?_ (by rw [TL.out]; exact HG.out))
            rw [HR.out]
            exact top3 w _ _ _
          · exact (((((Below.refl _ _).alloc (Nat.le_refl _) _).alloc (by simp) _).alloc (by simp; omega) _).drew).drew
set_option maxRecDepth 20000 in
set_option maxHeartbeats 2000000 in
theorem firstItem_form (b : List Nat) (low : ∀ x ∈ b, x < 256) (p0 : ¬ b.length < 2) (p1 : ¬ b.getD 1 0 < 128) (p2 : ¬ b.getD 1 0 = 129) (p3 : ¬ b.getD 1 0 = 130) (w : World) :
    Calls Try.prog 44 #[.string (sOf b)] w fun e w' => FirstIs b e w' ∧ Below w.heap.size w w' := by
  have E2 : Hid (firstS b = .inl 4) := by
    have : firstS b = .inl 4 := by unfold firstS; rw [if_neg p0, if_neg p1, if_neg p2, if_neg p3]
    exact this
  have g1 : ∀ h, ((sOf b)[1]'h).toNat = b.getD 1 0 := sOf_get low 1
  have ss : (sOf b).size = b.length := sOf_size b
  have l1 : b.getD 1 0 < 256 := by
    rw [List.getD_eq_getElem?_getD, List.getElem?_eq_getElem (show 1 < b.length by omega)]
    exact low _ (List.getElem_mem _)
  generalize sOf b = s at g1 ss ⊢
  generalize b.getD 1 0 = d at *
  have d8 : (d : Int) < 256 := by omega
  have z1 : ¬ (s.size : Int) < 2 := by omega
  have z2 : 1 < s.size := by omega
  have d5 : (0 : Int) ≤ (d : Int) := by omega
  clear ss low
  by_cases p4 : d = 128
  · subst p4
    clear p1 p2 p3
    go_enter Try.func44, Try.ntmps44
    go_wp2_with fail
    refine bodyPost_ret (v := .tuple #[.agg #[.int .u8 0, .slice none 0 0], i64 0, i64 4]) (by simp (maxDischargeDepth := 8) [results, Try.results44, go_sem]) rfl ⟨?_, ?_⟩
    · exact .inl ⟨4, E2.out, rfl⟩
    · exact ((Below.refl _ _).alloc (Nat.le_refl _) _).alloc (by simp) _
  · have d1 : ¬ (d : Int) = 128 := by omega
    have d2 : ((d : Int) == 128) = false := by simp [d1]
    have d3 : (d : Int) > 130 := by omega
    clear d1 p4 p1 p2 p3
    go_enter Try.func44, Try.ntmps44
    go_wp2_with fail
    refine bodyPost_ret (v := .tuple #[.agg #[.int .u8 0, .slice none 0 0], i64 0, i64 4]) (by simp (maxDischargeDepth := 8) [results, Try.results44, go_sem]) rfl ⟨?_, ?_⟩
    · exact .inl ⟨4, E2.out, rfl⟩
    · exact ((Below.refl _ _).alloc (Nat.le_refl _) _).alloc (by simp) _
set_option maxHeartbeats 1000000 in
theorem firstItem_short (b : List Nat) (p0 : b.length < 2) (w : World) :
    Calls Try.prog 44 #[.string (sOf b)] w fun e w' => FirstIs b e w' ∧ Below w.heap.size w w' := by
  have E2 : Hid (firstS b = .inl 3) := by
    have : firstS b = .inl 3 := by unfold firstS; rw [if_pos p0]
    exact this
  have ss : (sOf b).size = b.length := sOf_size b
  generalize sOf b = s at ss ⊢
  have z1 : (s.size : Int) < 2 := by omega
  clear ss
  go_enter Try.func44, Try.ntmps44
  go_wp2_with fail
  refine bodyPost_ret (v := .tuple #[.agg #[.int .u8 0, .slice none 0 0], i64 0, i64 3]) (by simp (maxDischargeDepth := 8) [results, Try.results44, go_sem]) rfl ⟨?_, ?_⟩
  · exact .inl ⟨3, E2.out, rfl⟩
  · exact ((Below.refl _ _).alloc (Nat.le_refl _) _).alloc (by simp) _
/-- sealringref.FirstItem answers as der.First. -/
theorem firstItem_fun (b : List Nat) (low : ∀ x ∈ b, x < 256) (w : World) :
    Calls Try.prog 44 #[.string (sOf b)] w fun e w' => FirstIs b e w' ∧ Below w.heap.size w w' := by
  by_cases p0 : b.length < 2
  · exact firstItem_short b p0 w
  · by_cases p1 : b.getD 1 0 < 128
    · exact firstItem_one b low p0 p1 w
    · by_cases p2 : b.getD 1 0 = 129
      · exact firstItem_two b low p0 p2 w
      · by_cases p3 : b.getD 1 0 = 130
        · exact firstItem_three b low p0 p3 w
        · exact firstItem_form b low p0 p1 p2 p3 w
end Go.Proofs.Ytohliojdmmbcdaa
