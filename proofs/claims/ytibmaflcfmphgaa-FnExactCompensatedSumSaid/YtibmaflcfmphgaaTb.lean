/- Walks: products of tables. -/
import Derived.Test.YtibmaflcfmphgaaMu
import Derived.LoopTactic
import Derived.StillTailTactics
namespace Go.Proofs.Ytibmaflcfmphgaa
open Go.RowKit

theorem still_tail {P : Program} {id : Nat} {Q : Exit → Act → World → Prop} {a : Act} {w : World} {l : List Oper} (n : Nat) (hm : P.follows .mixedOrders = true) (hB : Region.lexTailB .any l.toArray n = true)
    (h : wpStill P l.toArray w.drew (fun a' => wpList P l.toArray Q (l.drop n) a' w.drew) (l.take n) a) : (Code.region id l.toArray true).wp P Q a w := wp_region_still_tail n hm hB h

theorem put_new (W : World) (c : Array Value) (T : TypeId) (n i j : Nat) (v : Value) (hn : j = W.heap.size) : ((W.alloc (.cells c T)).drewN n).setCell ⟨j, i, none⟩ v = (W.alloc (.cells (c.setIfInBounds i v) T)).drewN n := by
  have h : ((W.alloc (.cells c T)).drewN n).setCell ⟨j, i, none⟩ v = ((W.alloc (.cells c T)).setCell ⟨j, i, none⟩ v).drewN n := rfl
  rw [h, World.setCell_alloc_at c T j i v hn]

/-- Complex numbers and tables of words. -/
structure Cx where
  re : Nat
  im : Nat

def Cx.v (z : Cx) : Value := .complex .f32 z.re z.im

def Cx.mul (z w : Cx) : Cx := ⟨pre z.re z.im w.re w.im, pim z.re z.im w.re w.im⟩

def Cx.add (z w : Cx) : Cx := ⟨sm z.re w.re, sm z.im w.im⟩

structure Tb where
  a : Cx
  b : Cx
  c : Cx
  d : Cx

def Tb.v (t : Tb) : Value := .agg #[t.a.v, t.b.v, t.c.v, t.d.v]

/-- The entry of a product. -/
def ent (z w z' w' : Cx) : Cx := (z.mul w).add (z'.mul w')

def Tb.mul (s t : Tb) : Tb := ⟨ent s.a t.a s.b t.c, ent s.a t.b s.b t.d, ent s.c t.a s.d t.c, ent s.c t.b s.d t.d⟩

def EntOk (z w z' w' : Cx) : Prop := ∃ k, Ab k z.re z.im w.re w.im z'.re z'.im w'.re w'.im

def MulOk (s t : Tb) : Prop := EntOk s.a t.a s.b t.c ∧ EntOk s.a t.b s.b t.d ∧ EntOk s.c t.a s.d t.c ∧ EntOk s.c t.b s.d t.d
