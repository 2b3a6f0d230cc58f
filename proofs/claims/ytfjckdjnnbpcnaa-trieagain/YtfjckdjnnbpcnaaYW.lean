import Derived.Test.YtfjckdjnnbpcnaaYV
import Derived.Test.YtfjckdjnnbpcnaaYI
import Derived.Test.YtfjckdjnnbpcnaaYH
namespace Go.Proofs.Ytfjckdjnnbpcnaa.Tr
open Go.RowKit Go.Maps Go.Shelf

/-- The landed tables, as what the laws ask of them. -/
def theT : Tbl where
  Tb := Tab
  fp := fpT
  on := fun h hk => h.on hk
  fpon := fun h hk k => h.fpon hk k
  fpb := fun h hk => h.fpb hk
  trk := fun {w base X nn g} h => ⟨fun W hW => tab_all W base X nn g (h.below hW),
    fun W hW r => (get_any W base X nn g (h.below hW) r).mono (by rintro e w' ⟨rfl, rfl⟩; exact ⟨rfl, Below.refl _ _⟩),
    fun W hW => (blocks_any W base X nn g (h.below hW)).mono (by rintro e w' ⟨rfl, rfl⟩; exact ⟨rfl, Below.refl _ _⟩)⟩
  set := fun {w base X nn g} f t v h => set_any w base X nn g f t v h
  new := newT_any
  copy := fun {w base X nn g} h => copy_any w base X nn g h

end Go.Proofs.Ytfjckdjnnbpcnaa.Tr
