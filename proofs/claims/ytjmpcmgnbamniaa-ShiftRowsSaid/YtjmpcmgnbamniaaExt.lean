/- A world that only draws and grows. No program here; no condition. -/
import Derived.Test.YtjmpcmgnbamniaaJReg
import Derived.Sort.Grow
import Derived.Deep.Draws
set_option maxRecDepth 100000
namespace Go.Proofs.Ytjmpcmgnbamniaa
open Go.RowKit

/-- the world has drawn, and has more blocks; nothing else -/
def Ext (w w' : World) : Prop := ∃ (q : Nat) (os : Array Obj), w' = Go.Sort.grow (w.drewN q) os
theorem Ext.refl (w : World) : Ext w w := ⟨0, #[], by rw [World.drewN_zero, Go.Sort.grow_empty]⟩
theorem Ext.drewN {w w' : World} (h : Ext w w') (n : Nat) : Ext w (w'.drewN n) := by
  obtain ⟨q, os, rfl⟩ := h
  exact ⟨q + n, os, by rw [← World.drewN_drewN]; rfl⟩
theorem Ext.grow {w w' : World} (h : Ext w w') (os : Array Obj) : Ext w (Go.Sort.grow w' os) := by
  obtain ⟨q, os', rfl⟩ := h
  exact ⟨q, os' ++ os, Go.Sort.grow_grow _ _ _⟩
theorem Ext.trans {w w' w'' : World} (h : Ext w w') (k : Ext w' w'') : Ext w w'' := by
  obtain ⟨q, os, rfl⟩ := k
  exact (h.drewN q).grow os
theorem Ext.alloc (w : World) (o : Obj) : Ext w (w.alloc o) := by
  rw [Go.Sort.alloc_eq_grow]
  exact (Ext.refl w).grow _
theorem Ext.low {w w' : World} (h : Ext w w') : Low w w' := by
  obtain ⟨q, os, rfl⟩ := h
  exact ⟨rfl, rfl, rfl, by simp [Go.Sort.grow], fun j hj => by simp [Go.Sort.grow, Array.getElem?_append, hj]⟩
end Go.Proofs.Ytjmpcmgnbamniaa
