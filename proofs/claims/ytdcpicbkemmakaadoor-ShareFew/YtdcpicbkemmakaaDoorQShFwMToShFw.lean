/- Texts that were joined: ShFwM, ShFw. -/
import Derived.Test.YtdcpicbkemmakaaDoorQShLgToShSm
import Derived.Test.YtdcpicbkemmakaaDoorQPrimeToAdN
import Derived.Test.YtdcpicbkemmakaaDoorQShNsToShPi
import Derived.Test.YtdcpicbkemmakaaDoorQUpGToUpZe
import Derived.Test.YtdcpicbkemmakaaDoorQFMathToOfB
import Derived.Test.YtdcpicbkemmakaaDoorQShSfToShSpl
import Derived.Test.YtdcpicbkemmakaaDoorQGArrToShD
/- One share fewer tells nothing: the secret is what one makes it by the last share (mathematics of ShareFew). -/
namespace Go.Proofs.YtdcpicbkemmakaaDoor
open Go.RowKit
set_option linter.unusedSimpArgs false
theorem goodL.last {l : List Shr} {x : Int} {y z : Nm} (h : goodL (l ++ [⟨x, y⟩])) (hz : z.nat < Cv.ord) : goodL (l ++ [⟨x, z⟩]) := by
  refine ⟨fun s hs => ?_, ?_⟩
  · rcases List.mem_append.1 hs with hs | hs
    · exact h.1 s (List.mem_append_left _ hs)
    · obtain rfl := List.mem_singleton.1 hs
      exact ⟨(h.1 ⟨x, y⟩ (List.mem_append_right _ List.mem_cons_self)).1, hz⟩
  · have := h.2
    rw [List.map_append] at this ⊢
    exact this
/-- Faults don't tell the last number, if it is low. -/
theorem flt_last (l : List Shr) (x : Int) (y z : Nm) (hy : y.nat < Cv.ord) (hz : z.nat < Cv.ord) (h20 : l.length < 20) : fltN (l ++ [⟨x, y⟩]) 0 = fltN (l ++ [⟨x, z⟩]) 0 := by
  have hl : ∀ u : Nm, (l ++ [(⟨x, u⟩ : Shr)]).length ≤ 20 := fun u => by simp; omega
  by_cases h : fltN (l ++ [⟨x, y⟩]) 0 = 0
  · have g := (flt_zero _ _).1 h
    rw [h]
    exact ((flt_zero _ _).2 ⟨by simp, hl z, g.2.2.1, g.2.2.2.1, g.2.2.2.2.last hz⟩).symm
  · by_cases h2 : fltN (l ++ [⟨x, z⟩]) 0 = 0
    · have g := (flt_zero _ _).1 h2
      exact absurd ((flt_zero _ _).2 ⟨by simp, hl y, g.2.2.1, g.2.2.2.1, g.2.2.2.2.last hy⟩) h
    · rw [flt_one (hl y) h, flt_one (hl z) h2]
theorem few_at (l : List Shr) (x : Int) (hg : goodL (l ++ [⟨x, ⟨0, 0, 0, 0⟩⟩])) (h20 : l.length < 20) : ∃ A D : Int, ¬ So.Z D ∧ ∀ y : Nm, y.nat < Cv.ord → fltN (l ++ [⟨x, y⟩]) 0 = 0 ∧ atM (l ++ [⟨x, y⟩]) 0 = nm (So.rd (A + (y.nat : Int) * D)) := by
  have one : (⟨1, 0, 0, 0⟩ : Nm).nat = 1 := by decide
  have zero : (⟨0, 0, 0, 0⟩ : Nm).nat = 0 := by decide
  have o1 : (1 : Nat) < Cv.ord := by decide
  have o0 : (0 : Nat) < Cv.ord := by decide
  have hg1 : goodL (l ++ [⟨x, ⟨1, 0, 0, 0⟩⟩]) := hg.last (by rw [one]; exact o1)
  obtain ⟨f, hf, -⟩ := at_poly hg (by simp)
  obtain ⟨g, hgg, -⟩ := at_poly hg1 (by simp)
  have ep : ∀ u : Nm, pts (l ++ [⟨x, u⟩]) = pts l ++ [(x, (u.nat : Int))] := fun u => by unfold pts; rw [List.map_append]; rfl
  have el : ∀ u : Nm, (pts (l ++ [⟨x, u⟩])).length = l.length + 1 := fun u => by simp [pts]
  have pf := hf.1
  have pg := hgg.1
  rw [el] at pf pg
  have hD : So.Po (l.length + 1) (fun z => g z - f z) := pg.sub pf
  have hDx : So.K (g x - f x) 1 := by
    have h1 := hf.2 (x, ((⟨0, 0, 0, 0⟩ : Nm).nat : Int)) (by rw [ep]; exact List.mem_append_right _ List.mem_cons_self)
    have h2 := hgg.2 (x, ((⟨1, 0, 0, 0⟩ : Nm).nat : Int)) (by rw [ep]; exact List.mem_append_right _ List.mem_cons_self)
    rw [zero] at h1
    rw [one] at h2
    exact (h2.sub h1).trans (So.K.of_eq (by simp))
  have hDl : ∀ q ∈ pts l, So.Z (g q.1 - f q.1) := fun q hq => by
    have h1 := hf.2 q (by rw [ep]; exact List.mem_append_left _ hq)
    have h2 := hgg.2 q (by rw [ep]; exact List.mem_append_left _ hq)
    exact (h2.sub h1).z (So.Z.zero.of_eq (by omega))
  refine ⟨f 0, g 0 - f 0, fun hz => ?_, fun y hy => ?_⟩
  · have hr : So.Z (g x - f x) := by
      refine hD.roots (l := 0 :: (pts l).map Prod.fst) (by simp [pts]) ?_ ?_ x
      · unfold So.Apart
        rw [List.pairwise_cons]
        have ha := hg.pts
        rw [ep] at ha
        unfold So.Good So.Apart at ha
        rw [List.map_append, List.pairwise_append] at ha
        refine ⟨fun b hb => ?_, ha.1⟩
        obtain ⟨q, hq, rfl⟩ := List.mem_map.1 hb
        obtain ⟨s, hs, rfl⟩ := List.mem_map.1 hq
        have hk := (hg.1 s (List.mem_append_left _ hs)).1
        exact apart_of (a := 0) (b := s.x) (by omega) (by omega) (by omega)
      · intro b hb
        rcases List.mem_cons.1 hb with rfl | hb
        · exact hz
        · obtain ⟨q, hq, rfl⟩ := List.mem_map.1 hb
          exact hDl q hq
    exact So.one_no (hDx.symm.z hr)
  · have hgy := hg.last hy
    have hfy : fltN (l ++ [⟨x, y⟩]) 0 = 0 := (flt_zero _ _).2 ⟨by simp, by simp; omega, by decide, by decide, hgy⟩
    refine ⟨hfy, ?_⟩
    unfold atM
    rw [if_pos hfy]
    have hp : So.IsAt (pts (l ++ [⟨x, y⟩])) (fun z => f z + (y.nat : Int) * (g z - f z)) := by
      refine ⟨by rw [el]; exact pf.add (hD.smul _), fun q hq => ?_⟩
      rw [ep] at hq
      rcases List.mem_append.1 hq with hq | hq
      · have h1 := hf.2 q (by rw [ep]; exact List.mem_append_left _ hq)
        exact (h1.add (So.Z.mul (y.nat : Int) (hDl q hq) |>.of_eq (b := (y.nat : Int) * (g q.1 - f q.1) - 0) (by omega) : So.K _ 0)).trans (So.K.of_eq (by omega))
      · obtain rfl := List.mem_singleton.1 hq
        have h1 := hf.2 (x, ((⟨0, 0, 0, 0⟩ : Nm).nat : Int)) (by rw [ep]; exact List.mem_append_right _ List.mem_cons_self)
        rw [zero] at h1
        exact (h1.add ((So.K.refl (y.nat : Int)).mul hDx)).trans (So.K.of_eq (by simp))
    have := atN_is hgy (by simp) 0 hp
    rw [show (0 : Int).toNat = 0 from rfl, this]
    rfl
theorem neg_K (a : Nat) : So.K (((Cv.ord - a % Cv.ord) % Cv.ord : Nat) : Int) (-(a : Int)) := by
  have h1 := So.K_mod (Cv.ord - a % Cv.ord)
  have h2 := So.K_mod a
  have h3 : a % Cv.ord < Cv.ord := Nat.mod_lt _ (by decide)
  have h4 : So.Z (Cv.ord : Int) := Int.dvd_refl _
  refine h1.trans ?_
  generalize a % Cv.ord = r at *
  unfold So.K at h2 ⊢
  exact (h4.sub h2).of_eq (by omega)
theorem inv_K {s : Nat} (h : ¬ So.Z (s : Int)) : So.K ((s : Int) * ((s ^ (Cv.ord - 2) % Cv.ord : Nat) : Int)) 1 := by
  have hk : (¬ Cv.ord ∣ s) := fun hd => h (Int.natCast_dvd_natCast.2 hd)
  have hf := P.fermat Cv.ord_pr hk
  have e2 : s ^ (Cv.ord - 1) = s * s ^ (Cv.ord - 2) := by
    rw [show Cv.ord - 1 = Cv.ord - 2 + 1 by decide, Nat.pow_succ, Nat.mul_comm]
  rw [e2] at hf
  have h1 := So.K_mod (s ^ (Cv.ord - 2))
  have h3 := So.K_mod (s * s ^ (Cv.ord - 2))
  rw [hf] at h3
  generalize s ^ (Cv.ord - 2) = t at *
  have h4 : So.K ((s : Int) * (t : Int)) 1 := (So.K.of_eq (by push_cast; rfl)).trans h3.symm
  exact ((So.K.refl (s : Int)).mul h1).trans h4
theorem few_end (A D : Int) (hD : ¬ So.Z D) (S a b s y : Nat) (hS : S < Cv.ord) (ha : a = So.rd A) (hb : b = So.rd (A + D)) (hs : s = (b + (Cv.ord - a % Cv.ord) % Cv.ord) % Cv.ord) (hy : y = ((S + (Cv.ord - a % Cv.ord) % Cv.ord) % Cv.ord) * (s ^ (Cv.ord - 2) % Cv.ord) % Cv.ord) : s ≠ 0 ∧ So.rd (A + (y : Int) * D) = S := by
  have ka : So.K (a : Int) A := by rw [ha]; exact So.rd_K _
  have kb : So.K (b : Int) (A + D) := by rw [hb]; exact So.rd_K _
  have kn := neg_K a
  have ks : So.K (s : Int) D := by
    have h1 := So.K_mod (b + (Cv.ord - a % Cv.ord) % Cv.ord)
    rw [← hs] at h1
    refine h1.trans ?_
    push_cast
    refine (kb.add kn).trans ?_
    exact ((So.K.refl (A + D)).sub ka).trans (So.K.of_eq (by omega)) |> fun h => (So.K.of_eq (by omega : A + D + -(a : Int) = A + D - (a : Int))).trans h
  have hsz : ¬ So.Z (s : Int) := fun h => hD (ks.symm.z h)
  refine ⟨fun h0 => hsz (by rw [h0]; exact So.Z.zero), ?_⟩
  have ki := inv_K hsz
  have ky : So.K (y : Int) (((S : Int) - a) * ((s ^ (Cv.ord - 2) % Cv.ord : Nat) : Int)) := by
    have h1 := So.K_mod (((S + (Cv.ord - a % Cv.ord) % Cv.ord) % Cv.ord) * (s ^ (Cv.ord - 2) % Cv.ord))
    rw [← hy] at h1
    refine h1.trans ?_
    have h2 := So.K_mod (S + (Cv.ord - a % Cv.ord) % Cv.ord)
    generalize s ^ (Cv.ord - 2) % Cv.ord = t at *
    generalize (S + (Cv.ord - a % Cv.ord) % Cv.ord) % Cv.ord = u at *
    push_cast
    refine So.K.mul (h2.trans ?_) (So.K.refl _)
    push_cast
    exact ((So.K.refl (S : Int)).add kn).trans (So.K.of_eq (by omega))
  generalize s ^ (Cv.ord - 2) % Cv.ord = t at *
  have h : So.K (A + (y : Int) * D) (S : Int) := by
    have h1 := ka.symm.add (ky.mul ks.symm)
    refine h1.trans ?_
    have h2 := (So.K.refl ((S : Int) - a)).mul ki
    exact (So.K.of_eq (by grind : (a : Int) + ((S : Int) - a) * (t : Int) * (s : Int) = (a : Int) + ((S : Int) - a) * ((s : Int) * (t : Int)))).trans (((So.K.refl (a : Int)).add h2).trans (So.K.of_eq (by omega)))
  rw [So.rd_eq h]
  exact So.rd_nat hS
end Go.Proofs.YtdcpicbkemmakaaDoor

/- ShareFew's own function: the shares with one more, at nought. -/
namespace Go.Proofs.YtdcpicbkemmakaaDoor
open Go.RowKit
attribute [local go_sem] World.cell?_alloc_some cell_alloc2 cell_alloc3 cell_alloc4 frozen?_alloc_cells frozen_out
attribute [local simp] MP.eq_p
set_option linter.unusedSimpArgs false
theorem cfClF (args : Array Value) (W : World) : (callFunc 16 args).run Tryd.prog W = .ok (.enter 16 args) W := cf_is (fn := Tryd.f16) (by kernel_rfl) (by decide) (by kernel_rfl) args W
theorem cfAtF (args : Array Value) (W : World) : (callFunc 11 args).run Tryd.prog W = .ok (.enter 11 args) W := cf_is (fn := Tryd.f11) (by kernel_rfl) (by decide) (by kernel_rfl) args W
theorem exec_ldF {o : Oper} {a : Act} (ty : TypeId) (x : Operand) (ho : o.op = .load ty x) (g : Nat) (hx : a.eval x = .pointer (some ⟨g, 0, none⟩)) (v : Value) (w : World) (hl : ∀ w : World, w.cell? ⟨g, 0, none⟩ = some v → (Instr.loadAt ty (.pointer (some ⟨g, 0, none⟩))).run Tryd.prog w = .ok v w) (hc : w.cell? ⟨g, 0, none⟩ = some v) : (execOp a.eval o).run Tryd.prog w = .ok (.value v) w := by
  generalize a.eval = ev at *
  unfold execOp
  simp [ho, hx, hl w hc]
theorem ld_shs (g : Nat) (a : Option Addr) (n c : Nat) (w : World) (hc : w.cell? ⟨g, 0, none⟩ = some (.slice a n c)) : (Instr.loadAt 26 (.pointer (some ⟨g, 0, none⟩))).run Tryd.prog w = .ok (.slice a n c) w := by
  simp [go_sem, hc]
theorem ld_int (g : Nat) (i : Int) (w : World) (hc : w.cell? ⟨g, 0, none⟩ = some (.int .i64 i)) : (Instr.loadAt 3 (.pointer (some ⟨g, 0, none⟩))).run Tryd.prog w = .ok (.int .i64 i) w := by
  simp [go_sem, hc]
theorem exec_exF {o : Oper} {a : Act} {v : Value} {vs : Array Value} (x : Operand) (i : Nat) (ho : o.op = .extract x i) (hx : a.eval x = .tuple vs) (hv : vs[i]? = some v) (W : World) : (execOp a.eval o).run Tryd.prog W = .ok (.value v) W := by
  generalize a.eval = ev at *
  unfold execOp
  simp [ho, hx, hv, go_sem]
theorem exec_buF {o : Oper} {a : Act} (x y : Operand) (ho : o.op = .build 38 #[(0, x), (1, y)]) (X : Int) (Y : Nm) (hx : a.eval x = .int .i64 X) (hy : a.eval y = N Y) (w : World) : (execOp a.eval o).run Tryd.prog w = .ok (.value (.agg #[.int .i64 X, .int .u64 Y.a, .int .u64 Y.b, .int .u64 Y.c, .int .u64 Y.d])) w := by
  have hb : Tryd.prog.built 38 [(0, .int .i64 X), (1, N Y)] = some #[.int .i64 X, .int .u64 Y.a, .int .u64 Y.b, .int .u64 Y.c, .int .u64 Y.d] := by kernel_rfl
  have e : (Instr.build 38 ((#[(0, x), (1, y)] : Array (Nat × Operand)).map fun q => (q.fst, a.eval q.snd))).run Tryd.prog w = .ok (.agg #[.int .i64 X, .int .u64 Y.a, .int .u64 Y.b, .int .u64 Y.c, .int .u64 Y.d]) w := run_build w 38 _ _ (by simpa [hx, hy] using hb)
  simp only [execOp, ho, Sem.run_bind, e, Result.andThen_ok, Sem.run_pure]
theorem one_c4F (x : Nm) : ∀ v ∈ c4 x, v.oneCell' = true := fun v hv => by
  simp only [c4, List.mem_cons, List.not_mem_nil, or_false] at hv
  rcases hv with rfl | rfl | rfl | rfl <;> rfl
set_option maxRecDepth 20000 in
set_option maxHeartbeats 4000000 in
theorem with_walk (l : List Shr) (n : Nat) (hn : l.length = n) (h5 : n ≤ 5) (a : Option Addr) (cp : Nat) (x E : Int) (y q : Nm) (kl kx : Nat) (w : World)
    (HL : w.cell? ⟨kl, 0, none⟩ = some (.slice a n cp)) (HX : w.cell? ⟨kx, 0, none⟩ = some (.int .i64 x)) (HV : Hid (Shs w (.slice a n cp) l))
    (A3 : ∀ W v, Shs W v (l ++ [⟨x, y⟩]) → Calls Tryd.prog 11 #[v, .int .i64 0] W fun e w' => e = .returned (.tuple #[N q, .int .i64 E]) ∧ Below W.heap.size W w') :
    Calls Tryd.prog 15 #[N y, .pointer (some ⟨kl, 0, none⟩), .pointer (some ⟨kx, 0, none⟩)] w fun e w' => e = .returned (.tuple #[N q, .int .i64 E]) ∧ Below w.heap.size w w' := by
  have ll : kl < w.heap.size := lt_of_cell HL
  have lx : kx < w.heap.size := lt_of_cell HX
  go_enter Tryd.func15, Tryd.ntmps15
  have s0 : Hid (Kn (kal4 (kal4 w (y)) ((⟨0,0,0,0⟩:Nm))) [(w.heap.size + 1, (c4 ((⟨0,0,0,0⟩:Nm)))), (w.heap.size, (c4 (y)))]) := (((Kn.nil w).al (c4 (y)) 24 rfl).al (c4 ((⟨0,0,0,0⟩:Nm))) 24 (by simp))
  have b0 : Hid (Below w.heap.size w (kal4 (kal4 w (y)) ((⟨0,0,0,0⟩:Nm)))) := (((Below.refl _ _).alloc (Nat.le_refl _) _).alloc (by simp <;> omega) _)
  go_wp2_with fail
  have sA : Hid (Kn (kal4 (kal4 w y) ⟨0, 0, 0, 0⟩) [(w.heap.size + 1, c4 ⟨0, 0, 0, 0⟩), (w.heap.size, c4 y)]) := s0
  have bA : Hid (Below w.heap.size w (kal4 (kal4 w y) ⟨0, 0, 0, 0⟩)) := b0
  have qr : Hid (w.heap.size ≤ w.heap.size + 1) := Nat.le_add_right _ _
  clear s0 b0
  have sA : Hid (Kn ((w.alloc (.cells #[.int .u64 y.a, .int .u64 y.b, .int .u64 y.c, .int .u64 y.d] 24)).alloc (.cells #[.int .u64 0, .int .u64 0, .int .u64 0, .int .u64 0] 24)) [(w.heap.size + 1, c4 ⟨0, 0, 0, 0⟩), (w.heap.size, c4 y)]) := sA
  have bA : Hid (Below w.heap.size w ((w.alloc (.cells #[.int .u64 y.a, .int .u64 y.b, .int .u64 y.c, .int .u64 y.d] 24)).alloc (.cells #[.int .u64 0, .int .u64 0, .int .u64 0, .int .u64 0] 24))) := bA
  generalize ((w.alloc (.cells #[.int .u64 y.a, .int .u64 y.b, .int .u64 y.c, .int .u64 y.d] 24)).alloc (.cells #[.int .u64 0, .int .u64 0, .int .u64 0, .int .u64 0] 24)) = wA at sA bA ⊢
  obtain ⟨ky, hky⟩ : ∃ ky, ky = w.heap.size := ⟨_, rfl⟩
  obtain ⟨kr, hkr⟩ : ∃ kr, kr = w.heap.size + 1 := ⟨_, rfl⟩
  rw [← hkr] at sA
  rw [← hky] at sA
  have qr : Hid (w.heap.size ≤ kr) := by rw [hkr]; exact qr.out
  have SB : Hid (∀ W, Kn W [(kr, c4 q), (ky, c4 y)] → Below w.heap.size w W → W.cell? ⟨kl, 0, none⟩ = some (.slice a n cp) ∧ W.cell? ⟨kx, 0, none⟩ = some (.int .i64 x) ∧ W.rangeAt ky 0 (c4 y)) := fun W hk hb => ⟨(hb.cell (p := ⟨kl, 0, none⟩) ll).trans HL, (hb.cell (p := ⟨kx, 0, none⟩) lx).trans HX, Kn.rng hk 1 rfl⟩
  have SW : Hid (∀ W, Below wA.heap.size wA W → W.cell? ⟨kl, 0, none⟩ = some (.slice a n cp) ∧ W.cell? ⟨kx, 0, none⟩ = some (.int .i64 x) ∧ W.rangeAt ky 0 (c4 y)) := fun W hW => ⟨((bA.out.trans (hW.mono bA.out.size)).cell (p := ⟨kl, 0, none⟩) ll).trans HL, ((bA.out.trans (hW.mono bA.out.size)).cell (p := ⟨kx, 0, none⟩) lx).trans HX, Kn.rng (sA.out.up hW) 1 rfl⟩
  have D0 : Below wA.heap.size wA { wA with drawn := wA.drawn + 1 } := (Below.refl _ _).drew
  have CL : Hid (∀ W, Below wA.heap.size wA W → Calls Tryd.prog 16 #[.slice a n cp] W fun e w' => ∃ u, e = .returned u ∧ Oh w' wA.heap.size u l ∧ Below W.heap.size W w') := fun W hW => (cloneH_fun l (by omega) _ _ (HV.out.up (bA.out.trans (hW.mono bA.out.size)))).mono fun e w' ⟨⟨v', he, hs⟩, hb⟩ => ⟨v', he, hs.mono hW.size, hb⟩
  have A4 : Hid (∀ W v, Shs W v (l ++ [⟨x, y⟩]) → Calls Tryd.prog 11 #[v, .int .i64 0] W fun e w' => ∃ u, e = .returned u ∧ (MP.eq (.tuple #[N q, .int .i64 E])).p u w' ∧ Below W.heap.size W w') := fun W v h => (A3 W v h).mono fun e w' ⟨he, hb⟩ => ⟨_, he, rfl, hb⟩
  have LZ : Hid (l.length + [(⟨x, y⟩ : Shr)].length ≤ 100000) := by show _ ≤ _; simp only [List.length_cons, List.length_nil]; omega
  clear A3 HL HX HV
  rw [← hkr, ← hky]
  refine wp_region_held (S := fun W => W.cell? ⟨kl, 0, none⟩ = some (.slice a n cp) ∧ W.cell? ⟨kx, 0, none⟩ = some (.int .i64 x) ∧ W.rangeAt ky 0 (c4 y)) (by kernel_rfl) ?_
  refine wpAnyH_take (i := 0) (v := .slice a n cp) (fuel := 11) rfl (by kernel_rfl) (by kernel_rfl) (by kernel_rfl) (fun _ _ _ h => h) (.inl ⟨wanted_none rfl, fun W hW => exec_ldF 26 (.tmp 1) rfl kl (by kernel_rfl) _ W (ld_shs kl a n cp) hW.1⟩) (SW.out _ D0) ?_
  refine wpAnyH_take (i := 2) (v := .int .i64 x) rfl (by kernel_rfl) (by kernel_rfl) (by kernel_rfl) (fun _ _ _ h => h) (.inl ⟨wanted_none rfl, fun W hW => exec_ldF 3 (.tmp 2) rfl kx (by kernel_rfl) _ W (ld_int kx x) hW.2.1⟩) (SW.out _ D0) ?_
  refine wpAnyH_take (i := 3) (v := N y) rfl (by kernel_rfl) (by kernel_rfl) (by kernel_rfl) (fun _ _ _ h => h) (yieldsIf_load_mid (wanted_none rfl) 24 _ rfl ky 0 (by kernel_rfl) (c4 y) _ (fun W hW => hW.2.2) Tryd.underlying24 rfl (info_c4' y)) (SW.out _ D0) ?_
  refine wpAnyH_take (i := 4) (v := .agg #[.int .i64 x, .int .u64 y.a, .int .u64 y.b, .int .u64 y.c, .int .u64 y.d]) rfl (by kernel_rfl) (by kernel_rfl) (by kernel_rfl) (fun _ _ _ h => h) (Yields.yieldsIf (.inl ⟨wanted_none rfl, exec_buF (.tmp 8) (.tmp 9) rfl x y (by kernel_rfl) (by kernel_rfl)⟩)) (SW.out _ D0) ?_
  simp only [Act.put, List.setIfInBounds_toArray, List.set_cons_succ, List.set_cons_zero]
  refine anyH_two (i := 1) (k := 5) (by kernel_rfl) ?_ ?_
  · refine anyH_y (φ := fun v W => Oh W wA.heap.size v l) rfl (wanted_none rfl) (yields_call1 cfClF (.tmp 6) _ rfl (.slice a n cp) (by kernel_rfl) (CL.out _ D0)) ?_
    intro c1 v1w o1 hb1
    have D1 : Below wA.heap.size wA v1w := (D0).trans (hb1.mono (D0).size)
    refine ⟨SW.out _ D1, ?_⟩
    simp only [Act.put, List.setIfInBounds_toArray, List.set_cons_succ, List.set_cons_zero]
    refine anyH_one (i := 5) (by kernel_rfl) ?_
    refine anyH_y (φ := fun v W => Shs W v [⟨x, y⟩]) rfl (wanted_none rfl) (yields_bs1 (.tmp 10) rfl ⟨x, y⟩ (by kernel_rfl)) ?_
    intro c2 v2w x2 hb2
    have D2 : Below wA.heap.size wA v2w := (D1).trans (hb2.mono (D1).size)
    have p2 := Oh.up o1 hb2
    refine ⟨SW.out _ D2, ?_⟩
    simp only [Act.put, List.setIfInBounds_toArray, List.set_cons_succ, List.set_cons_zero]
    refine anyH_one (i := 6) (by kernel_rfl) ?_
    refine anyH_l rfl (wp_appH rfl (.tmp 7) (.tmp 11) rfl wA.heap.size c1 c2 l [⟨x, y⟩] (by kernel_rfl) p2 (by kernel_rfl) x2 LZ.out (D2).size ?_)
    intro c6 v6w o6 hg
    have D6 : Below wA.heap.size wA v6w := Below.grown D2 hg (D2).size (Oh.ge p2)
    have t6 := Oh.shs o6
    refine anyH_end ⟨SW.out _ D6, ?_⟩
    simp only [Act.put, List.setIfInBounds_toArray, List.set_cons_succ, List.set_cons_zero]
    refine anyH_one (i := 7) (by kernel_rfl) ?_
    refine anyH_y (φ := (MP.eq (.tuple #[N q, .int .i64 E])).p) rfl (wanted_none rfl) (yields_call2 cfAtF (.tmp 12) (.const (.int .i64 0)) _ rfl c6 (.int .i64 0) (by kernel_rfl) (by kernel_rfl) (A4.out _ _ t6)) ?_
    intro c7 v7w e7 hb7
    obtain rfl : c7 = .tuple #[N q, .int .i64 E] := e7
    have D7 : Below wA.heap.size wA v7w := D6.trans (hb7.mono D6.size)
    refine ⟨SW.out _ D7, ?_⟩
    simp only [Act.put, List.setIfInBounds_toArray, List.set_cons_succ, List.set_cons_zero]
    refine wpAnyH_take (i := 8) (v := N q) rfl (by kernel_rfl) (by kernel_rfl) (by kernel_rfl) (fun _ _ _ h => h) (Yields.yieldsIf (.inl ⟨wanted_none rfl, exec_exF (.tmp 13) 0 rfl (vs := #[N q, .int .i64 E]) (by kernel_rfl) rfl⟩)) (SW.out _ D7) ?_
    refine wpAnyH_take (i := 9) (v := .int .i64 E) rfl (by kernel_rfl) (by kernel_rfl) (by kernel_rfl) (fun _ _ _ h => h) (Yields.yieldsIf (.inl ⟨wanted_none rfl, exec_exF (.tmp 13) 1 rfl (vs := #[N q, .int .i64 E]) (by kernel_rfl) rfl⟩)) (SW.out _ D7) ?_
    refine anyH_one (i := 10) (by kernel_rfl) ?_
    have s6 : Hid (Kn v7w [(kr, c4 ⟨0, 0, 0, 0⟩), (ky, c4 y)]) := sA.out.up D7
    have B6 : Hid (Below w.heap.size w v7w) := bA.out.trans (D7.mono bA.out.size)
    refine anyH_l rfl (I.wp_store_eq rfl 24 (.tmp 4) (.tmp 14) rfl kr 0 (c4 q) (by kernel_rfl) (by kernel_rfl) (Kn.there s6.out 0 rfl rfl) (info_c4' q) (one_c4F q) ?_)
    intro w8 hw8
    have s8 : Hid (Kn w8 [(kr, c4 q), (ky, c4 y)]) := by rw [hw8.out]; exact Kn.put s6.out rfl
    have b8 : Hid (Below w.heap.size w w8) := by rw [hw8.out]; exact I.below_setCells _ _ _ B6.out qr.out
    have S8 := SB.out _ s8 b8
    refine anyH_end ⟨S8, ?_⟩
    simp only [Act.put, List.setIfInBounds_toArray, List.set_cons_succ, List.set_cons_zero]
    refine anyH_one (i := 11) (by kernel_rfl) ?_
    refine anyH_y (φ := (MP.eq (.int .i64 E)).p) rfl (wanted_none rfl) (yields_as (.tmp 15) rfl (by kernel_rfl)) ?_
    intro cz wz ez hbz
    obtain rfl : cz = .int .i64 E := ez
    have s9 : Hid (Kn wz [(kr, c4 q), (ky, c4 y)]) := s8.out.up hbz
    have b9 : Hid (Below w.heap.size w wz) := b8.out.trans (hbz.mono b8.out.size)
    refine ⟨SB.out _ s9 b9, ?_⟩
    simp only [Act.put, List.setIfInBounds_toArray, List.set_cons_succ, List.set_cons_zero]
    clear hbz s8 b8 hw8
    refine wpAnyH_done (by kernel_rfl) ?_ _
    subst hkr hky
    go_wp2_with fail
    have urrr_0 : wz.cell? ⟨w.heap.size + 1, 0, none⟩ = some (.int .u64 (q).a) := Kn.get s9.out 0 0 rfl rfl
    have urrr_1 : wz.cell? ⟨w.heap.size + 1, 1, none⟩ = some (.int .u64 (q).b) := Kn.get s9.out 0 1 rfl rfl
    have urrr_2 : wz.cell? ⟨w.heap.size + 1, 2, none⟩ = some (.int .u64 (q).c) := Kn.get s9.out 0 2 rfl rfl
    have urrr_3 : wz.cell? ⟨w.heap.size + 1, 3, none⟩ = some (.int .u64 (q).d) := Kn.get s9.out 0 3 rfl rfl
    refine bodyPost_ret (v := .tuple #[N q, .int .i64 E]) ?_ rfl ⟨rfl, b9.out⟩
    show (results Tryd.f15 _).run Tryd.prog wz = .ok _ wz
    clear s9 b9
    generalize wz = W9 at *
    simp [results, Tryd.results15, go_sem, urrr_0, urrr_1, urrr_2, urrr_3]
  · refine anyH_y (φ := fun v W => Shs W v [⟨x, y⟩]) rfl (wanted_none rfl) (yields_bs1 (.tmp 10) rfl ⟨x, y⟩ (by kernel_rfl)) ?_
    intro c1 v1w x1 hb1
    have D1 : Below wA.heap.size wA v1w := (D0).trans (hb1.mono (D0).size)
    refine ⟨SW.out _ D1, ?_⟩
    simp only [Act.put, List.setIfInBounds_toArray, List.set_cons_succ, List.set_cons_zero]
    refine anyH_one (i := 1) (by kernel_rfl) ?_
    refine anyH_y (φ := fun v W => Oh W wA.heap.size v l) rfl (wanted_none rfl) (yields_call1 cfClF (.tmp 6) _ rfl (.slice a n cp) (by kernel_rfl) (CL.out _ D1)) ?_
    intro c2 v2w o2 hb2
    have D2 : Below wA.heap.size wA v2w := (D1).trans (hb2.mono (D1).size)
    have y2 := Shs.up x1 hb2
    refine ⟨SW.out _ D2, ?_⟩
    simp only [Act.put, List.setIfInBounds_toArray, List.set_cons_succ, List.set_cons_zero]
    refine anyH_one (i := 6) (by kernel_rfl) ?_
    refine anyH_l rfl (wp_appH rfl (.tmp 7) (.tmp 11) rfl wA.heap.size c2 c1 l [⟨x, y⟩] (by kernel_rfl) o2 (by kernel_rfl) y2 LZ.out (D2).size ?_)
    intro c6 v6w o6 hg
    have D6 : Below wA.heap.size wA v6w := Below.grown D2 hg (D2).size (Oh.ge o2)
    have t6 := Oh.shs o6
    refine anyH_end ⟨SW.out _ D6, ?_⟩
    simp only [Act.put, List.setIfInBounds_toArray, List.set_cons_succ, List.set_cons_zero]
    refine anyH_one (i := 7) (by kernel_rfl) ?_
    refine anyH_y (φ := (MP.eq (.tuple #[N q, .int .i64 E])).p) rfl (wanted_none rfl) (yields_call2 cfAtF (.tmp 12) (.const (.int .i64 0)) _ rfl c6 (.int .i64 0) (by kernel_rfl) (by kernel_rfl) (A4.out _ _ t6)) ?_
    intro c7 v7w e7 hb7
    obtain rfl : c7 = .tuple #[N q, .int .i64 E] := e7
    have D7 : Below wA.heap.size wA v7w := D6.trans (hb7.mono D6.size)
    refine ⟨SW.out _ D7, ?_⟩
    simp only [Act.put, List.setIfInBounds_toArray, List.set_cons_succ, List.set_cons_zero]
    refine wpAnyH_take (i := 8) (v := N q) rfl (by kernel_rfl) (by kernel_rfl) (by kernel_rfl) (fun _ _ _ h => h) (Yields.yieldsIf (.inl ⟨wanted_none rfl, exec_exF (.tmp 13) 0 rfl (vs := #[N q, .int .i64 E]) (by kernel_rfl) rfl⟩)) (SW.out _ D7) ?_
    refine wpAnyH_take (i := 9) (v := .int .i64 E) rfl (by kernel_rfl) (by kernel_rfl) (by kernel_rfl) (fun _ _ _ h => h) (Yields.yieldsIf (.inl ⟨wanted_none rfl, exec_exF (.tmp 13) 1 rfl (vs := #[N q, .int .i64 E]) (by kernel_rfl) rfl⟩)) (SW.out _ D7) ?_
    refine anyH_one (i := 10) (by kernel_rfl) ?_
    have s6 : Hid (Kn v7w [(kr, c4 ⟨0, 0, 0, 0⟩), (ky, c4 y)]) := sA.out.up D7
    have B6 : Hid (Below w.heap.size w v7w) := bA.out.trans (D7.mono bA.out.size)
    refine anyH_l rfl (I.wp_store_eq rfl 24 (.tmp 4) (.tmp 14) rfl kr 0 (c4 q) (by kernel_rfl) (by kernel_rfl) (Kn.there s6.out 0 rfl rfl) (info_c4' q) (one_c4F q) ?_)
    intro w8 hw8
    have s8 : Hid (Kn w8 [(kr, c4 q), (ky, c4 y)]) := by rw [hw8.out]; exact Kn.put s6.out rfl
    have b8 : Hid (Below w.heap.size w w8) := by rw [hw8.out]; exact I.below_setCells _ _ _ B6.out qr.out
    have S8 := SB.out _ s8 b8
    refine anyH_end ⟨S8, ?_⟩
    simp only [Act.put, List.setIfInBounds_toArray, List.set_cons_succ, List.set_cons_zero]
    refine anyH_one (i := 11) (by kernel_rfl) ?_
    refine anyH_y (φ := (MP.eq (.int .i64 E)).p) rfl (wanted_none rfl) (yields_as (.tmp 15) rfl (by kernel_rfl)) ?_
    intro cz wz ez hbz
    obtain rfl : cz = .int .i64 E := ez
    have s9 : Hid (Kn wz [(kr, c4 q), (ky, c4 y)]) := s8.out.up hbz
    have b9 : Hid (Below w.heap.size w wz) := b8.out.trans (hbz.mono b8.out.size)
    refine ⟨SB.out _ s9 b9, ?_⟩
    simp only [Act.put, List.setIfInBounds_toArray, List.set_cons_succ, List.set_cons_zero]
    clear hbz s8 b8 hw8
    refine wpAnyH_done (by kernel_rfl) ?_ _
    subst hkr hky
    go_wp2_with fail
    have urrr_0 : wz.cell? ⟨w.heap.size + 1, 0, none⟩ = some (.int .u64 (q).a) := Kn.get s9.out 0 0 rfl rfl
    have urrr_1 : wz.cell? ⟨w.heap.size + 1, 1, none⟩ = some (.int .u64 (q).b) := Kn.get s9.out 0 1 rfl rfl
    have urrr_2 : wz.cell? ⟨w.heap.size + 1, 2, none⟩ = some (.int .u64 (q).c) := Kn.get s9.out 0 2 rfl rfl
    have urrr_3 : wz.cell? ⟨w.heap.size + 1, 3, none⟩ = some (.int .u64 (q).d) := Kn.get s9.out 0 3 rfl rfl
    refine bodyPost_ret (v := .tuple #[N q, .int .i64 E]) ?_ rfl ⟨rfl, b9.out⟩
    show (results Tryd.f15 _).run Tryd.prog wz = .ok _ wz
    clear s9 b9
    generalize wz = W9 at *
    simp [results, Tryd.results15, go_sem, urrr_0, urrr_1, urrr_2, urrr_3]
end Go.Proofs.YtdcpicbkemmakaaDoor
