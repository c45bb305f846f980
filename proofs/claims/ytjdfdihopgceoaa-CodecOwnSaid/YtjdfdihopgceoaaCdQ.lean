/- The plain model of codec: legs, taxes, commands, records, and the walk over them. -/
import Derived.Test.YtjdfdihopgceoaaCdPure
namespace Go.Cod
open Go.Dk Go.Jn

structure Lg where
  c : Nat
  f : Nat
  w : Nat
structure Tx where
  code : By
  am : Nat
structure Cmd where
  kind : Nat
  car : Nat
  ser : Nat
  pos : Nat
  name : By
  legs : List Lg
  fare : Nat
  taxes : List Tx
  pen : Nat
  am : Nat
structure Rc where
  kind : Nat
  cmd : Cmd
  frm : Nat
  num : Nat
  msg : List Nat
def zLg : Lg := ⟨0, 0, 0⟩
def zTx : Tx := ⟨[], 0⟩
def zCmd : Cmd := ⟨0, 0, 0, 0, [], [], 0, [], 0, 0⟩
def zMsg : List Nat := [0, 0, 0, 0, 0, 0, 0, 0, 0, 0, 0, 0]
def zRc : Rc := ⟨0, zCmd, 0, 0, zMsg⟩
abbrev messageK : List K := [.u8, .u8, .u64, .u8, .u8, .u16, .u32, .i64, .u8, .u32, .i64, .i64]
def lgM (m : Bool) (s : St) (l : Lg) : St × Lg :=
  let a := nuM m s 1 l.c
  let b := nuM m a.1 2 l.f
  let d := nuM m b.1 4 l.w
  (d.1, ⟨a.2, b.2, d.2⟩)
def txM (m : Bool) (s : St) (x : Tx) : St × Tx :=
  let a := teM m s x.code
  let b := nuM m a.1 8 x.am
  (b.1, ⟨a.2, b.2⟩)
def cmM (m : Bool) (s : St) (c : Cmd) : St × Cmd :=
  let a1 := nuM m s 1 c.kind
  let a2 := nuM m a1.1 1 c.car
  let a3 := nuM m a2.1 8 c.ser
  let a4 := nuM m a3.1 1 c.pos
  let a5 := nuM m a4.1 8 c.am
  let b1 := teM m a5.1 c.name
  let b2 := liM m (lgM m) zLg b1.1 c.legs
  let b3 := nuM m b2.1 8 c.fare
  let b4 := liM m (txM m) zTx b3.1 c.taxes
  let b5 := nuM m b4.1 8 c.pen
  (b5.1, ⟨a1.2, a2.2, a3.2, a4.2, b1.2, b2.2, b3.2, b4.2, b5.2, a5.2⟩)
/-- over a record: the walk, and the record as it is behind it; and whether its kind is one -/
def rcM (m : Bool) (s : St) (r : Rc) : St × Rc :=
  let k := nuM m s 1 r.kind
  if k.2 = 1 then
    let c := cmM m k.1 r.cmd
    (c.1, { r with kind := k.2, cmd := c.2 })
  else if k.2 = 2 then
    let f := nuM m k.1 1 r.frm
    let n := nuM m f.1 8 r.num
    let g := nusM m n.1 messageK r.msg
    (g.1, { r with kind := k.2, frm := f.2, num := n.2, msg := g.2 })
  else if k.2 = 3 then
    let f := nuM m k.1 1 r.frm
    let n := nuM m f.1 8 r.num
    (n.1, { r with kind := k.2, frm := f.2, num := n.2 })
  else (⟨false, k.1.L⟩, { r with kind := k.2 })
def OkLg (l : Lg) : Prop := l.c < 256 ∧ l.f < 65536 ∧ l.w < 4294967296
def OkTx (m : Bool) (x : Tx) : Prop := x.code.length ≤ 1000000 ∧ (m = true ∨ x.code = []) ∧ x.am < 18446744073709551616
end Go.Cod
