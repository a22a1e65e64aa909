/- What Check, Put, Get, Pure of package event come to: evcheck_any (EvG), evput_any (EvP), evpure_any (EvQ), evget_any (EvY). No axioms any more. -/
import Derived.Test.YtkahdmhgfojbiaaEvtV
import Derived.Test.YtkahdmhgfojbiaaEvY
