/- The last module of twins. Conditions: none. -/
import Derived.Test.YtgpgifpblchjjaaBzT3
