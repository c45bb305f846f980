/- The plain model of codec: which records may be, what Put and Get answer. -/
import Derived.Test.YtjdfdihopgceoaaCdQ
namespace Go.Cod
open Go.Dk Go.Jn

def noCmdB (c : Cmd) : Bool := decide (c.kind = 0) && decide (c.car = 0) && decide (c.ser = 0) && decide (c.pos = 0) && decide (c.name = []) && decide (c.legs.length = 0) && decide (c.fare = 0) && decide (c.taxes.length = 0) && decide (c.pen = 0) && decide (c.am = 0)
def mayB (r : Rc) : Bool :=
  if r.kind = 1 then decide (r.frm = 0) && decide (r.num = 0) && decide (r.msg = zMsg)
  else if r.kind = 2 then noCmdB r.cmd
  else if r.kind = 3 then noCmdB r.cmd && decide (r.msg = zMsg)
  else false
/-- what Put answers -/
def putL (r : Rc) : Nat × By :=
  if mayB r then (if (rcM true ⟨true, []⟩ r).1.ok then (0, (rcM true ⟨true, []⟩ r).1.L) else (2, [])) else (140, [])
/-- what Get answers: no error, and a record; or none -/
def getL (b : By) : Option Rc :=
  if (rcM false ⟨true, b⟩ zRc).1.ok && decide ((rcM false ⟨true, b⟩ zRc).1.L.length = 0) then some (rcM false ⟨true, b⟩ zRc).2 else none
end Go.Cod
