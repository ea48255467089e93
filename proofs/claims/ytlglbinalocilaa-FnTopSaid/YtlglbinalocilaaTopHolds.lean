/- The promise of pulses, vectors and pairs holds: a drawn sequence is its table, the inverse has the adjoints in the other order, opposite tables make the same of vectors, and swapped pairs are turned at the other spin. No condition. -/
import Derived.Test.YtlglbinalocilaaKbo
import Derived.Test.YtlglbinalocilaaQg
namespace Go.Proofs.Ytlglbinalocilaa
open Go.RowKit

theorem swapOk : SwapOk := fun p k w h hk => by
  have ht : TF ⟨p.a, p.b, p.c, p.d⟩ := tb_tf (k := k) h hk
  exact swapPair_ok ht w

theorem firstOk : FirstOk := fun a p w ha hp => by
  obtain ⟨_, h0, h1, h2, h3⟩ := first_ok ha hp
  have ht : TF ⟨p.a, p.b, p.c, p.d⟩ := tb_tf (k := 2) (t := ⟨p.a, p.b, p.c, p.d⟩) hp (by omega)
  exact turnOne0_ok (a := a) (t := ⟨p.a, p.b, p.c, p.d⟩) (tb_tf (k := 60) ha (by omega)) ht ⟨h0, h2, h1, h3⟩ w

theorem secondOk : SecondOk := fun a p w ha hp => by
  obtain ⟨_, h0, h1, h2, h3⟩ := second_ok ha hp
  have ht : TF ⟨p.a, p.b, p.c, p.d⟩ := tb_tf (k := 2) (t := ⟨p.a, p.b, p.c, p.d⟩) hp (by omega)
  exact turnOne1_ok (a := a) (t := ⟨p.a, p.b, p.c, p.d⟩) (tb_tf (k := 60) ha (by omega)) ht ⟨h0, h1, h2, h3⟩ w

theorem holds : Rows.FnTopSaid := fnTop.over firstOk secondOk swapOk


end Go.Proofs.Ytlglbinalocilaa
