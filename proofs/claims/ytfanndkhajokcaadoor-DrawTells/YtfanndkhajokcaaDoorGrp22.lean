import Derived.Test.YtfanndkhajokcaaDoorRMark
import Derived.Test.YtfanndkhajokcaaDoorGrp19
/- Bytes out of a seed, as lists; the contract of sealringref.Drawn. -/
namespace Go.Proofs.YtfanndkhajokcaaDoor
open Go.RowKit
set_option linter.unusedSimpArgs false
/-- A number as eight bytes, the greatest first. -/
def be8 (k : Nat) : List Nat := (List.range 8).map fun x => k / 2 ^ (56 - 8 * x) % 256
theorem be8_length (k : Nat) : (be8 k).length = 8 := by simp [be8]
theorem be8_low (k : Nat) : ∀ x ∈ be8 k, x < 256 := by
  intro x hx
  obtain ⟨j, _, rfl⟩ := List.mem_map.1 hx
  omega
theorem be8_at {k x : Nat} (h : x < 8) : (be8 k).take (x + 1) = (be8 k).take x ++ [k / 2 ^ (56 - 8 * x) % 256] := by
  rw [List.take_add_one]
  congr 1
  simp [be8, h]
/-- A block of a source. -/
def blkS (seed : List Nat) (k : Nat) : List Nat := markS seed (be8 k)
theorem blkS_length (seed : List Nat) (k : Nat) : (blkS seed k).length = 32 := markK_length _ _
theorem blkS_low (seed : List Nat) (k : Nat) : ∀ x ∈ blkS seed k, x < 256 := sumS_low _
/-- The byte of a source at a place. -/
def byteS (seed : List Nat) (pl : Nat) : Nat := (blkS seed (pl / 32)).getD (pl % 32) 0
/-- So many bytes, from a place on. -/
def drawS (seed : List Nat) (pl n : Nat) : List Nat := (List.range n).map fun i => byteS seed ((pl + i) % 18446744073709551616)
theorem drawS_length (seed : List Nat) (pl n : Nat) : (drawS seed pl n).length = n := by simp [drawS]
theorem drawS_succ (seed : List Nat) (pl n : Nat) : drawS seed pl (n + 1) = drawS seed pl n ++ [byteS seed ((pl + n) % 18446744073709551616)] := by
  unfold drawS
  rw [List.range_succ, List.map_append]
  rfl
theorem byteS_lt (seed : List Nat) (pl : Nat) : byteS seed pl < 256 := by
  have h : pl % 32 < (blkS seed (pl / 32)).length := by rw [blkS_length]; exact Nat.mod_lt _ (by decide)
  unfold byteS
  rw [List.getD_eq_getElem?_getD, List.getElem?_eq_getElem h]
  exact blkS_low seed _ _ (List.getElem_mem h)
theorem drawS_low (seed : List Nat) (pl n : Nat) : ∀ x ∈ drawS seed pl n, x < 256 := by
  intro x hx
  obtain ⟨j, _, rfl⟩ := List.mem_map.1 hx
  exact byteS_lt _ _
/-- What is drawn in two parts is drawn at once. -/
theorem drawS_add (seed : List Nat) (pl m n : Nat) : drawS seed pl (m + n) = drawS seed pl m ++ drawS seed ((pl + m) % 18446744073709551616) n := by
  induction n with
  | zero => simp [drawS]
  | succ n ih =>
    rw [← Nat.add_assoc, drawS_succ, drawS_succ, ih, List.append_assoc]
    congr 4
    omega
theorem s_snoc (xs : List Nat) (x : Nat) : sOf xs ++ sOf [x] = sOf (xs ++ [x]) := sOf_append xs [x]
set_option maxRecDepth 20000 in
set_option maxHeartbeats 4000000 in
theorem rdrawn_fun (seed : List Nat) (ls : ∀ x ∈ seed, x < 256) (zs : seed.length ≤ 500000000000000) (pl : Nat) (hp : pl < 18446744073709551616) (n : Nat) (hn : n ≤ 4096) (w : World) (hT : RTab w) :
    Calls Tryd.prog 14 #[.string (sOf seed), .int .u64 (pl : Int), .int .i64 (n : Int)] w fun e w' => e = .returned (.string (sOf (drawS seed pl n))) ∧ Below w.heap.size w w' := by
  have MK : Hid (∀ k w, RTab w → Calls Tryd.prog 35 #[.string (sOf seed), .string (sOf (be8 k))] w fun e w' => e = .returned (vB (blkS seed k)) ∧ Below w.heap.size w w') := fun k w hT => rmark_fun seed (be8 k) ls zs (be8_low k) (by rw [be8_length]; decide) w hT
  have TU : Hid (∀ w', Below w.heap.size w w' → RTab w') := fun w' hb => hT.up hb hT.pos
  obtain ⟨x0, x1⟩ := al1 w #[Value.int IntKind.u8 0, Value.int IntKind.u8 0, Value.int IntKind.u8 0, Value.int IntKind.u8 0, Value.int IntKind.u8 0, Value.int IntKind.u8 0, Value.int IntKind.u8 0, Value.int IntKind.u8 0, Value.int IntKind.u8 0, Value.int IntKind.u8 0, Value.int IntKind.u8 0, Value.int IntKind.u8 0, Value.int IntKind.u8 0, Value.int IntKind.u8 0, Value.int IntKind.u8 0, Value.int IntKind.u8 0, Value.int IntKind.u8 0, Value.int IntKind.u8 0, Value.int IntKind.u8 0, Value.int IntKind.u8 0, Value.int IntKind.u8 0, Value.int IntKind.u8 0, Value.int IntKind.u8 0, Value.int IntKind.u8 0, Value.int IntKind.u8 0, Value.int IntKind.u8 0, Value.int IntKind.u8 0, Value.int IntKind.u8 0, Value.int IntKind.u8 0, Value.int IntKind.u8 0, Value.int IntKind.u8 0, Value.int IntKind.u8 0] 47
  have X0 : Hid (Blk _ _ ((List.replicate 32 0).map b8)) := x0
  have X1 : Hid (Below _ _ _) := x1
  have HP : Hid (pl < 18446744073709551616) := hp
  clear hT ls zs x0 x1 hp
  generalize hus : sOf seed = us at *
  clear hus
  go_enter Tryd.func14, Tryd.ntmps14
  go_wp2_with fail
  generalize w.alloc (Obj.cells #[Value.int IntKind.u8 0, Value.int IntKind.u8 0, Value.int IntKind.u8 0, Value.int IntKind.u8 0, Value.int IntKind.u8 0, Value.int IntKind.u8 0, Value.int IntKind.u8 0, Value.int IntKind.u8 0, Value.int IntKind.u8 0, Value.int IntKind.u8 0, Value.int IntKind.u8 0, Value.int IntKind.u8 0, Value.int IntKind.u8 0, Value.int IntKind.u8 0, Value.int IntKind.u8 0, Value.int IntKind.u8 0, Value.int IntKind.u8 0, Value.int IntKind.u8 0, Value.int IntKind.u8 0, Value.int IntKind.u8 0, Value.int IntKind.u8 0, Value.int IntKind.u8 0, Value.int IntKind.u8 0, Value.int IntKind.u8 0, Value.int IntKind.u8 0, Value.int IntKind.u8 0, Value.int IntKind.u8 0, Value.int IntKind.u8 0, Value.int IntKind.u8 0, Value.int IntKind.u8 0, Value.int IntKind.u8 0, Value.int IntKind.u8 0] 47) = w1 at *
  go_loopw [7, 8, 16] (fun s h i wr => ∃ (k hv : Nat) (D : List Nat), k ≤ n ∧ s = .string (sOf (drawS seed pl k)) ∧ h = .int .u64 (hv : Int) ∧ i = .int .i64 (k : Int) ∧ Hid (D.length = 32) ∧ Hid (k = 0 ∨ D = blkS seed hv) ∧ Hid (Blk wr w.heap.size (D.map b8)) ∧ Hid (Below w.heap.size w wr)) (fun _ _ i _ => n - (intOf i).toNat)
  case atStart => exact ⟨0, 0, List.replicate 32 0, by omega, rfl, rfl, rfl, (by simp : (List.replicate 32 0).length = 32), .inl rfl, X0, X1⟩
  case round =>
    clear X0 X1
    obtain ⟨k, hv, D, hk, rfl, rfl, rfl, dl, dd, bg, hb⟩ := hrel
    by_cases hlt : k < n
    · have i1 : (k : Int) < (n : Int) := by omega
      obtain ⟨P, hP⟩ : ∃ P, P = (pl + k) % 18446744073709551616 := ⟨_, rfl⟩
      have wP : IntKind.u64.wrap ((pl : Int) + (k : Int)) = (P : Int) := by rw [IntKind.wrap_u64]; omega
      have DS := drawS_succ seed pl k
      rw [← hP] at DS
      obtain ⟨q, hq⟩ : ∃ q, q = P / 32 := ⟨_, rfl⟩
      obtain ⟨r, hr⟩ : ∃ r, r = P % 32 := ⟨_, rfl⟩
      have wq : IntKind.u64.wrap ((P : Int).tdiv 32) = (q : Int) := by rw [IntKind.wrap_u64, Int.tdiv_eq_ediv_of_nonneg (by omega)]; omega
      have wq' : (P : Int) / 32 = (q : Int) := by omega
      have wr1 : (P : Int).tmod 32 = (r : Int) := by rw [Int.tmod_eq_emod_of_nonneg (by omega)]; omega
      have wr2 : (P : Int) % 32 = (r : Int) := by omega
      have wr3 : IntKind.u64.wrap ((r : Int) + 1) = (r : Int) + 1 := by rw [IntKind.wrap_u64]; omega
      have r32 : r < 32 := by omega
      have q64 : q < 18446744073709551616 := by omega
      have BQ : Hid (byteS seed P = (blkS seed q).getD r 0) := by rw [hq, hr]; exact rfl
      have P64 : P < 18446744073709551616 := by omega
      have TS : Hid (sOf (drawS seed pl k) ++ sOf [(blkS seed q).getD r 0] = sOf (drawS seed pl (k + 1))) := by
        rw [DS, ← BQ.out]
        exact s_snoc _ _
      have ta : (sOf (drawS seed pl k)).size = k := by rw [sOf_size, drawS_length]
      clear hq hr hP DS BQ
      by_cases hk0 : k = 0
      · subst hk0
        have wP0 : IntKind.u64.wrap (pl : Int) = (P : Int) := by rw [← wP]; simp
        go_wp2_with fail
        go_loopw [13, 33] (fun b x wr => ∃ j : Nat, j ≤ 8 ∧ b = .string (sOf ((be8 q).take j)) ∧ x = .int .i64 (j : Int) ∧ Hid (Blk wr w.heap.size (D.map b8)) ∧ Hid (Below w.heap.size w wr)) (fun _ x _ => 8 - (intOf x).toNat)
        case atStart => exact ⟨0, by omega, rfl, rfl, bg, hb⟩
        case round =>
          clear bg hb
          obtain ⟨j, hj, rfl, rfl, bg, hb⟩ := hrel
          by_cases hj8 : j < 8
          · have j1 : (j : Int) < 8 := by omega
            have TT : Hid (sOf ((be8 q).take j) ++ sOf [q / 2 ^ (56 - 8 * j) % 256] = sOf ((be8 q).take (j + 1))) := by
              rw [be8_at hj8]
              exact s_snoc _ _
            have tj : (sOf ((be8 q).take j)).size = j := by rw [sOf_size, List.length_take, be8_length]; omega
            have tk : (sOf [q / 2 ^ (56 - 8 * j) % 256]).size = 1 := by rw [sOf_size]; rfl
            have BY : Hid (∀ (xa : Nat) (W : World) (t : TypeId) (g : Nat), g = W.heap.size → By (W.alloc (.cells #[.int .u8 (xa : Int)] t)) (.slice (some ⟨g, 0, none⟩) 1 1) [xa]) := fun xa W t g hg => By.one ((cell_top hg).trans rfl)
            go_wp2_with (refine wp_conv rfl (.tmp 43) rfl _ [q / 2 ^ (56 - 8 * j) % 256] rfl (BY.out _ _ _ _ (by simp)) ?_)
            rw [TT.out]
            go_roundw
            case rel => exact ⟨j + 1, by omega, rfl, by go_num, bg.out.up (al1 _ _ _).2 bg.out.lt, hb.out.alloc hb.out.size _⟩
            case measure => simp [intOf]; omega
          · obtain rfl : j = 8 := by omega
            have TK : Hid ((be8 q).take 8 = be8 q) := List.take_of_length_le (by rw [be8_length]; exact Nat.le_refl _)
            rw [TK.out]
            have MQ : Hid _ := MK.out q wr (TU.out _ hb.out)
            have BL : Hid _ := blkS_length seed q
            have IB : Hid _ := info_d32.trans (congrArg some (show 32 = ((blkS seed q).map b8).length by rw [List.length_map, BL.out]))
            clear hj8 hj TK
            generalize hbq : sOf (be8 q) = ub at *
            clear hbq
            go_wp2_with fail
            refine Calls.mono MQ.out ?_
            rintro e w4 ⟨rfl, hb4⟩
            have B4 : Hid (Blk w4 w.heap.size (D.map b8)) := bg.out.up hb4 bg.out.lt
            have D4 : Hid (Below w.heap.size w w4) := hb.out.trans (hb4.mono hb.out.size)
            clear hb4 bg hb MQ
            have T4 : Hid (w4.there w.heap.size 0 ((blkS seed q).map b8).length) := B4.out.there (by rw [List.length_map, List.length_map, BL.out, dl.out]; omega)
            go_wp2_with (refine wp_store_eq rfl 47 (.tmp 9) (.tmp 49) rfl w.heap.size 0 ((blkS seed q).map b8) rfl rfl T4.out IB.out (one_b8 _) ?_)
            intro w5 hw5
            have BZ : Hid (Blk w5 w.heap.size ((blkS seed q).map b8)) := by
              rw [hw5.out]
              have h1 : Blk w4 w.heap.size ([] ++ (D.map b8 ++ [])) := by simpa using B4.out
              have h2 := h1.store (o := 0) (b' := (blkS seed q).map b8) rfl (by rw [List.length_map, List.length_map, BL.out, dl.out])
              rw [List.nil_append, List.append_nil] at h2
              exact h2
            have DZ : Hid (Below w.heap.size w w5) := by
              rw [hw5.out]
              exact below_setCells _ _ _ D4.out (Nat.le_refl _)
            clear hw5 T4 B4 D4 IB BL dd dl
            have CR : Hid (∀ W, Blk W w.heap.size ((blkS seed q).map b8) → By W (.slice (some ⟨w.heap.size, r, none⟩) 1 (32 - r)) [(blkS seed q).getD r 0]) := fun W h => By.of_cells (xs := [(blkS seed q).getD r 0]) (by rw [List.length_singleton]; omega) (fun j hj => by
              obtain rfl : j = 0 := by simpa using hj
              rw [Nat.add_zero]
              refine h.cell r _ ?_
              have : r < (blkS seed q).length := by rw [blkS_length]; exact r32
              simp [List.getD_eq_getElem?_getD, this])
            have tb : (sOf [(blkS seed q).getD r 0]).size = 1 := by rw [sOf_size]; rfl
            have r1 : (r : Int) ≤ (r : Int) + 1 := by omega
            have r2 : (r : Int) + 1 ≤ 32 := by omega
            have BY : Hid _ := CR.out _ BZ.out
            clear CR
            generalize (blkS seed q).getD r 0 = by1 at *
            generalize hu1 : sOf (drawS seed pl 0) = u1 at *
            clear hu1
            go_wp2_with (refine wp_conv rfl (.tmp 56) rfl _ [by1] rfl BY.out ?_)
            rw [TS.out]
            go_roundw
            case rel => exact ⟨0 + 1, q, blkS seed q, by omega, rfl, rfl, by first | rfl | go_num, blkS_length seed q, .inr rfl, BZ, DZ⟩
            case measure => simp [intOf]; omega
      · have k0 : ¬ (k : Int) = 0 := by omega
        have k0b : ((k : Int) == 0) = false := by simpa using k0
        by_cases hqh : q = hv
        · subst hqh
          have DE : Hid (D = blkS seed q) := dd.out.resolve_left hk0
          rw [DE.out] at bg
          have BZ : Hid (Blk wr w.heap.size ((blkS seed q).map b8)) := bg
          have DZ : Hid (Below w.heap.size w wr) := hb
          clear bg hb dd dl DE hk0
          have CR : Hid (∀ W, Blk W w.heap.size ((blkS seed q).map b8) → By W (.slice (some ⟨w.heap.size, r, none⟩) 1 (32 - r)) [(blkS seed q).getD r 0]) := fun W h => By.of_cells (xs := [(blkS seed q).getD r 0]) (by rw [List.length_singleton]; omega) (fun j hj => by
            obtain rfl : j = 0 := by simpa using hj
            rw [Nat.add_zero]
            refine h.cell r _ ?_
            have : r < (blkS seed q).length := by rw [blkS_length]; exact r32
            simp [List.getD_eq_getElem?_getD, this])
          have tb : (sOf [(blkS seed q).getD r 0]).size = 1 := by rw [sOf_size]; rfl
          have r1 : (r : Int) ≤ (r : Int) + 1 := by omega
          have r2 : (r : Int) + 1 ≤ 32 := by omega
          have BY : Hid _ := CR.out _ BZ.out
          clear CR
          generalize (blkS seed q).getD r 0 = by1 at *
          generalize hu1 : sOf (drawS seed pl k) = u1 at *
          clear hu1
          go_wp2_with (refine wp_conv rfl (.tmp 56) rfl _ [by1] rfl BY.out ?_)
          rw [TS.out]
          go_roundw
          case rel => exact ⟨k + 1, q, blkS seed q, by omega, rfl, rfl, by first | rfl | go_num, blkS_length seed q, .inr rfl, BZ, DZ⟩
          case measure => simp [intOf]; omega
        · have q1 : ¬ (q : Int) = (hv : Int) := by omega
          have q1b : ((q : Int) != (hv : Int)) = true := by simpa using q1
          clear hk0 hqh
          go_wp2_with fail
          go_loopw [13, 33] (fun b x wr => ∃ j : Nat, j ≤ 8 ∧ b = .string (sOf ((be8 q).take j)) ∧ x = .int .i64 (j : Int) ∧ Hid (Blk wr w.heap.size (D.map b8)) ∧ Hid (Below w.heap.size w wr)) (fun _ x _ => 8 - (intOf x).toNat)
          case atStart => exact ⟨0, by omega, rfl, rfl, bg, hb⟩
          case round =>
            clear bg hb
            obtain ⟨j, hj, rfl, rfl, bg, hb⟩ := hrel
            by_cases hj8 : j < 8
            · have j1 : (j : Int) < 8 := by omega
              have TT : Hid (sOf ((be8 q).take j) ++ sOf [q / 2 ^ (56 - 8 * j) % 256] = sOf ((be8 q).take (j + 1))) := by
                rw [be8_at hj8]
                exact s_snoc _ _
              have tj : (sOf ((be8 q).take j)).size = j := by rw [sOf_size, List.length_take, be8_length]; omega
              have tk : (sOf [q / 2 ^ (56 - 8 * j) % 256]).size = 1 := by rw [sOf_size]; rfl
              have BY : Hid (∀ (xa : Nat) (W : World) (t : TypeId) (g : Nat), g = W.heap.size → By (W.alloc (.cells #[.int .u8 (xa : Int)] t)) (.slice (some ⟨g, 0, none⟩) 1 1) [xa]) := fun xa W t g hg => By.one ((cell_top hg).trans rfl)
              go_wp2_with (refine wp_conv rfl (.tmp 43) rfl _ [q / 2 ^ (56 - 8 * j) % 256] rfl (BY.out _ _ _ _ (by simp)) ?_)
              rw [TT.out]
              go_roundw
              case rel => exact ⟨j + 1, by omega, rfl, by go_num, bg.out.up (al1 _ _ _).2 bg.out.lt, hb.out.alloc hb.out.size _⟩
              case measure => simp [intOf]; omega
            · obtain rfl : j = 8 := by omega
              have TK : Hid ((be8 q).take 8 = be8 q) := List.take_of_length_le (by rw [be8_length]; exact Nat.le_refl _)
              rw [TK.out]
              have MQ : Hid _ := MK.out q wr (TU.out _ hb.out)
              have BL : Hid _ := blkS_length seed q
              have IB : Hid _ := info_d32.trans (congrArg some (show 32 = ((blkS seed q).map b8).length by rw [List.length_map, BL.out]))
              clear hj8 hj TK
              generalize hbq : sOf (be8 q) = ub at *
              clear hbq
              go_wp2_with fail
              refine Calls.mono MQ.out ?_
              rintro e w4 ⟨rfl, hb4⟩
              have B4 : Hid (Blk w4 w.heap.size (D.map b8)) := bg.out.up hb4 bg.out.lt
              have D4 : Hid (Below w.heap.size w w4) := hb.out.trans (hb4.mono hb.out.size)
              clear hb4 bg hb MQ
              have T4 : Hid (w4.there w.heap.size 0 ((blkS seed q).map b8).length) := B4.out.there (by rw [List.length_map, List.length_map, BL.out, dl.out]; omega)
              go_wp2_with (refine wp_store_eq rfl 47 (.tmp 9) (.tmp 49) rfl w.heap.size 0 ((blkS seed q).map b8) rfl rfl T4.out IB.out (one_b8 _) ?_)
              intro w5 hw5
              have BZ : Hid (Blk w5 w.heap.size ((blkS seed q).map b8)) := by
                rw [hw5.out]
                have h1 : Blk w4 w.heap.size ([] ++ (D.map b8 ++ [])) := by simpa using B4.out
                have h2 := h1.store (o := 0) (b' := (blkS seed q).map b8) rfl (by rw [List.length_map, List.length_map, BL.out, dl.out])
                rw [List.nil_append, List.append_nil] at h2
                exact h2
              have DZ : Hid (Below w.heap.size w w5) := by
                rw [hw5.out]
                exact below_setCells _ _ _ D4.out (Nat.le_refl _)
              clear hw5 T4 B4 D4 IB BL dd dl
              have CR : Hid (∀ W, Blk W w.heap.size ((blkS seed q).map b8) → By W (.slice (some ⟨w.heap.size, r, none⟩) 1 (32 - r)) [(blkS seed q).getD r 0]) := fun W h => By.of_cells (xs := [(blkS seed q).getD r 0]) (by rw [List.length_singleton]; omega) (fun j hj => by
                obtain rfl : j = 0 := by simpa using hj
                rw [Nat.add_zero]
                refine h.cell r _ ?_
                have : r < (blkS seed q).length := by rw [blkS_length]; exact r32
                simp [List.getD_eq_getElem?_getD, this])
              have tb : (sOf [(blkS seed q).getD r 0]).size = 1 := by rw [sOf_size]; rfl
              have r1 : (r : Int) ≤ (r : Int) + 1 := by omega
              have r2 : (r : Int) + 1 ≤ 32 := by omega
              have BY : Hid _ := CR.out _ BZ.out
              clear CR
              generalize (blkS seed q).getD r 0 = by1 at *
              generalize hu1 : sOf (drawS seed pl k) = u1 at *
              clear hu1
              go_wp2_with (refine wp_conv rfl (.tmp 56) rfl _ [by1] rfl BY.out ?_)
              rw [TS.out]
              go_roundw
              case rel => exact ⟨k + 1, q, blkS seed q, by omega, rfl, rfl, by first | rfl | go_num, blkS_length seed q, .inr rfl, BZ, DZ⟩
              case measure => simp [intOf]; omega
    · obtain rfl : k = n := by omega
      go_wp2_with fail
      go_ret
      exact ⟨rfl, hb.out⟩
end Go.Proofs.YtfanndkhajokcaaDoor

/- What is asked of a source of bytes, whatever it keeps: the contracts of package draw as one premise. -/
namespace Go.Proofs.YtfanndkhajokcaaDoor
open Go.RowKit
set_option linter.unusedSimpArgs false
/-- Nothing but block k, and what is new, is another. -/
abbrev Fr (w : World) (k : Nat) (w' : World) : Prop := w.grownBy w' (some k)
theorem Fr.refl (w : World) (k : Nat) : Fr w k w := ⟨rfl, rfl, rfl, Nat.le_refl _, fun _ _ _ => rfl⟩
theorem Fr.then {w a b : World} {k : Nat} (h : Fr w k a) (hb : Below a.heap.size a b) : Fr w k b :=
  ⟨hb.os.trans h.os, hb.tape.trans h.tape, hb.output.trans h.output, Nat.le_trans h.size hb.size, fun j hj hk => (hb.block j (Nat.lt_of_lt_of_le hj h.size)).trans (h.block j hj hk)⟩
theorem Fr.below {w a : World} {k B : Nat} (h : Fr w k a) (hB : B ≤ w.heap.size) (hk : B ≤ k) : Below B w a := Below.grown (Below.refl _ _) h hB (fun j hj => by cases hj; exact hk)
abbrev ptr (k : Nat) : Value := .pointer (some ⟨k, 0, none⟩)
/-- Src w k F seed p: in block k lies a source of this seed, at place p; it looks at the blocks F alone. -/
structure SrcC (Src : World → Nat → (Nat → Prop) → List Nat → Nat → Prop) : Prop where
  stay : ∀ {W w1 : World} {k p : Nat} {F : Nat → Prop} {seed : List Nat}, Src W k F seed p → (∀ g, F g → w1.heap[g]? = W.heap[g]?) → Src w1 k F seed p
  lt : ∀ {W : World} {k p : Nat} {F : Nat → Prop} {seed : List Nat}, Src W k F seed p → ∀ g, F g → g < W.heap.size
  self : ∀ {W : World} {k p : Nat} {F : Nat → Prop} {seed : List Nat}, Src W k F seed p → F k
  small : ∀ {W : World} {k p : Nat} {F : Nat → Prop} {seed : List Nat}, Src W k F seed p → p < 18446744073709551616
  new : ∀ (seed : List Nat) (_ : ∀ x ∈ seed, x < 256) (_ : seed.length ≤ 500000000000000) (v : Value) (w : World) (_ : By w v seed) (_ : KTab w), Calls Tryd.prog 8 #[v] w fun e w' => (∃ k F, e = .returned (ptr k) ∧ w.heap.size ≤ k ∧ (∀ g, F g → w.heap.size ≤ g) ∧ Src w' k F seed 0) ∧ Below w.heap.size w w'
  place : ∀ {seed : List Nat} {F : Nat → Prop} {k p : Nat} (w : World) (_ : Src w k F seed p), Calls Tryd.prog 11 #[ptr k] w fun e w' => e = .returned (.int .u64 (p : Int)) ∧ Below w.heap.size w w'
  bytes : ∀ {seed : List Nat} {F : Nat → Prop} {k p : Nat} (n : Nat) (_ : n ≤ 4096) (w : World) (_ : Src w k F seed p) (_ : KTab w) (_ : 0 < k), Calls Tryd.prog 13 #[ptr k, .int .i64 (n : Int)] w fun e w' => (∃ v', e = .returned (.tuple #[v', .int .i64 0]) ∧ Ob w' w.heap.size v' (drawS seed p n)) ∧ Src w' k F seed ((p + n) % 18446744073709551616) ∧ Fr w k w'
  bytesNeg : ∀ {seed : List Nat} {F : Nat → Prop} {k p : Nat} (n : Int) (_ : n < 0) (w : World) (_ : Src w k F seed p), Calls Tryd.prog 13 #[ptr k, .int .i64 n] w fun e w' => (∃ v', e = .returned (.tuple #[v', .int .i64 1]) ∧ By w' v' []) ∧ Below w.heap.size w w'
  bytesLarge : ∀ {seed : List Nat} {F : Nat → Prop} {k p : Nat} (n : Int) (_ : 4096 < n) (w : World) (_ : Src w k F seed p), Calls Tryd.prog 13 #[ptr k, .int .i64 n] w fun e w' => (∃ v', e = .returned (.tuple #[v', .int .i64 2]) ∧ By w' v' []) ∧ Below w.heap.size w w'
  skip : ∀ {seed : List Nat} {F : Nat → Prop} {k p : Nat} (n : Nat) (_ : n ≤ 4096) (w : World) (_ : Src w k F seed p) (_ : 0 < k), Calls Tryd.prog 12 #[ptr k, .int .i64 (n : Int)] w fun e w' => e = .returned (.int .i64 0) ∧ Src w' k F seed ((p + n) % 18446744073709551616) ∧ Fr w k w'
  skipNeg : ∀ {seed : List Nat} {F : Nat → Prop} {k p : Nat} (n : Int) (_ : n < 0) (w : World) (_ : Src w k F seed p), Calls Tryd.prog 12 #[ptr k, .int .i64 n] w fun e w' => e = .returned (.int .i64 1) ∧ Below w.heap.size w w'
  skipLarge : ∀ {seed : List Nat} {F : Nat → Prop} {k p : Nat} (n : Int) (_ : 4096 < n) (w : World) (_ : Src w k F seed p), Calls Tryd.prog 12 #[ptr k, .int .i64 n] w fun e w' => e = .returned (.int .i64 2) ∧ Below w.heap.size w w'
theorem SrcC.up {Src : World → Nat → (Nat → Prop) → List Nat → Nat → Prop} (C : SrcC Src) {W w1 : World} {k p : Nat} {F : Nat → Prop} {seed : List Nat} (h : Src W k F seed p) (hb : Below W.heap.size W w1) : Src w1 k F seed p :=
  C.stay h fun g hg => hb.block g (C.lt h g hg)
/-- A source stays where something else is written. -/
theorem SrcC.kept {Src : World → Nat → (Nat → Prop) → List Nat → Nat → Prop} (C : SrcC Src) {W w1 : World} {k p : Nat} {F : Nat → Prop} {seed : List Nat} {row : Option Nat} (h : Src W k F seed p) (hg : W.grownBy w1 row) (hr : ∀ j, row = some j → ¬ F j) : Src w1 k F seed p :=
  C.stay h fun g hF => hg.block g (C.lt h g hF) (fun e => hr g e.symm hF)
theorem drawS_block (seed : List Nat) (k : Nat) (h : k < 1000000) : drawS seed (32 * k) 32 = blkS seed k := by
  apply List.ext_getElem?
  intro i
  rcases Nat.lt_or_ge i 32 with hi | hi
  · have e1 : (32 * k + i) % 18446744073709551616 = 32 * k + i := Nat.mod_eq_of_lt (by omega)
    have e2 : (32 * k + i) / 32 = k := by omega
    have e3 : (32 * k + i) % 32 = i := by omega
    have hl : i < (blkS seed k).length := by rw [blkS_length]; exact hi
    simp [drawS, hi, e1, byteS, e2, e3, List.getD_eq_getElem?_getD, hl, Nat.mod_eq_of_lt hi]
  · rw [List.getElem?_eq_none (by rw [drawS_length]; exact hi), List.getElem?_eq_none (by rw [blkS_length]; exact hi)]
theorem be8_small (k : Nat) (h : k < 256) : be8 k = [0, 0, 0, 0, 0, 0, 0, k] := by
  have e : ∀ j, 8 ≤ j → k / 2 ^ j % 256 = 0 := fun j hj => by
    rw [Nat.div_eq_of_lt (Nat.lt_of_lt_of_le h (Nat.pow_le_pow_right (n := 2) (by decide) hj))]
  unfold be8
  rw [show List.range 8 = [0, 1, 2, 3, 4, 5, 6, 7] from rfl]
  simp only [List.map_cons, List.map_nil]
  rw [e _ (by decide), e _ (by decide), e _ (by decide), e _ (by decide), e _ (by decide), e _ (by decide), e _ (by decide)]
  congr 7
  simp
  omega
end Go.Proofs.YtfanndkhajokcaaDoor
