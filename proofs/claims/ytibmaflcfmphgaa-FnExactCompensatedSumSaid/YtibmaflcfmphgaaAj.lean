/- Walks: adjoints of tables. -/
import Derived.Test.YtibmaflcfmphgaaTb
namespace Go.Proofs.Ytibmaflcfmphgaa
open Go.RowKit

def Cx.conj (z : Cx) : Cx := ⟨z.re, Op.negFloat .f32 z.im⟩

def Tb.adj (t : Tb) : Tb := ⟨t.a.conj, t.c.conj, t.b.conj, t.d.conj⟩
