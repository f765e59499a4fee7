/- What lay in a block lies there when others have been made. -/
import Derived.Deep.RegionHeld
namespace Go.Proofs.Ytepaapiflkkghaa
theorem cell_alloc2 (w : World) (a : Addr) (o1 o2 : Obj) (h : (w.cell? a).isSome = true) : ((w.alloc o1).alloc o2).cell? a = w.cell? a := by
  have e := World.cell?_alloc_some w a o1 h
  rw [World.cell?_alloc_some _ a o2 (by rw [e]; exact h), e]
theorem cell_alloc3 (w : World) (a : Addr) (o1 o2 o3 : Obj) (h : (w.cell? a).isSome = true) : (((w.alloc o1).alloc o2).alloc o3).cell? a = w.cell? a := by
  have e := cell_alloc2 w a o1 o2 h
  rw [World.cell?_alloc_some _ a o3 (by rw [e]; exact h), e]
theorem cell_alloc4 (w : World) (a : Addr) (o1 o2 o3 o4 : Obj) (h : (w.cell? a).isSome = true) : ((((w.alloc o1).alloc o2).alloc o3).alloc o4).cell? a = w.cell? a := by
  have e := cell_alloc3 w a o1 o2 o3 h
  rw [World.cell?_alloc_some _ a o4 (by rw [e]; exact h), e]
end Go.Proofs.Ytepaapiflkkghaa
