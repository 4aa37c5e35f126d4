/- The one test of hodmanlaw2.ConfWhole with 121 operations: one walk in the order of its text serves every order that Go leaves open. -/
import Derived.Test.YtekffikkbiohnaaDoorLex
namespace Go.Proofs.YtekffikkbiohnaaDoor
open Go

theorem whole6_0 : lexPart (opsOf 6 Tryd.f4) 0 18 = true := by kernel_rfl
theorem whole6_1 : lexPart (opsOf 6 Tryd.f4) 18 18 = true := by kernel_rfl
theorem whole6_2 : lexPart (opsOf 6 Tryd.f4) 36 18 = true := by kernel_rfl
theorem whole6_3 : lexPart (opsOf 6 Tryd.f4) 54 18 = true := by kernel_rfl
theorem whole6_4 : lexPart (opsOf 6 Tryd.f4) 72 18 = true := by kernel_rfl
theorem whole6_5 : lexPart (opsOf 6 Tryd.f4) 90 18 = true := by kernel_rfl
theorem whole6_6 : lexPart (opsOf 6 Tryd.f4) 108 13 = true := by kernel_rfl
theorem whole6_size : ((opsOf 6 Tryd.f4).size == 121) = true := by kernel_rfl
theorem whole6_sel : Region.noSelect (opsOf 6 Tryd.f4) = true := by kernel_rfl
theorem whole6_lex : Region.lexB .any (opsOf 6 Tryd.f4) = true := by
  refine lexB_of _ whole6_sel fun k hk => ?_
  have hs : (opsOf 6 Tryd.f4).size = 121 := by simpa using whole6_size
  rw [hs] at hk
  by_cases h0 : k < 18
  · exact lexPart_at whole6_0 k (by omega) (by omega)
  by_cases h1 : k < 36
  · exact lexPart_at whole6_1 k (by omega) (by omega)
  by_cases h2 : k < 54
  · exact lexPart_at whole6_2 k (by omega) (by omega)
  by_cases h3 : k < 72
  · exact lexPart_at whole6_3 k (by omega) (by omega)
  by_cases h4 : k < 90
  · exact lexPart_at whole6_4 k (by omega) (by omega)
  by_cases h5 : k < 108
  · exact lexPart_at whole6_5 k (by omega) (by omega)
  by_cases h6 : k < 121
  · exact lexPart_at whole6_6 k (by omega) (by omega)
  exact absurd hk (by omega)
end Go.Proofs.YtekffikkbiohnaaDoor
